/- Proof. -/
import Derived.Test.YtegeamggbglneaaGreatDoorPk10
import Derived.Test.YtegeamggbglneaaGreatDoorPk05
import Derived.Shelf.Spec.TrailingZeros
import Derived.Deep.DeepCutAuto
import Derived.StillTailTactics
import Derived.Deep.OwnRows
import Derived.Deep.Heap
set_option maxHeartbeats 4000000
set_option maxRecDepth 100000
set_option linter.unusedVariables false
namespace Go.Proofs.YtegeamggbglneaaGreatDoor
namespace Fi
open Gr (ai)
open Bt (bz has eP gains els EJ)
structure fN (G:ai) (n:Nat) (C0:Int->Bool) (j:Nat) (C:Int->Bool) (b:Bool):Prop where
 snd:∀x,C x=true->Can G x
 no:b=false->C=C0/\∀i (h:i<G.rules.length),i<j->bC C0 G.rules[i].2=true->C0 G.rules[i].1=true
 yes:b=true->mN C n<mN C0 n
theorem zJm{G}{n}{C}(h:∀x,C x=true->Can G x):fN G n C 0 C false:=⟨h,fun _=>⟨rfl,fun i _ hi=>absurd hi (by omega)⟩,fun h=>by cases h⟩
theorem fN.step{G}{n}{C0 C}{j}{b c}(h:fN G n C0 j C b)(hl:Ir G n)(hj)(hc:c=true↔bC C G.rules[j].2=true/\C G.rules[j].1=false):
  fN G n C0 (j+1) (eu C G.rules[j]) (b||c):=by
 have hm:=List.getElem_mem hj
 have hs:∀x,eu C G.rules[j] x=true->Can G x:=fun x k=>by
  unfold eu at k;rw[Bool.or_eq_true,Bool.and_eq_true,decide_eq_true_iff]at k;rcases k with k|⟨e,k⟩
  ·exact h.snd x k
  ·subst e;exact .mk _ hm fun z hz=>h.snd z (yA.1 k z hz)
 cases c with
 |false=>
  have hg:bC C G.rules[j].2=true->C G.rules[j].1=true:=fun k=>by
   cases e:C G.rules[j].1 with
   |true=>rfl
   |false=>have:=hc.2 ⟨k,e⟩;cases this
  rw[UL hg,Bool.or_false];refine⟨h.snd,fun e=>?_,h.yes⟩;obtain⟨e1,e3⟩:=h.no e;refine⟨e1,fun i hi hl=>?_⟩
  by_cases he:i=j
  ·subst he;rw[←e1];exact hg
  ·exact e3 i hi (by omega)
 |true=>
  obtain⟨h2,h3⟩:=hc.1 rfl;obtain⟨l0,l1⟩:=hl _ hm;have e:((G.rules[j].1.toNat:Nat):Int)=G.rules[j].1:=by omega
  have hg:=Ns (P:=C) (Q:=eu C G.rules[j]) (n:=n) (k:=G.rules[j].1.toNat) (fun i _ k=>zSl k) (by omega) (by rw[e];exact h3) (by rw[e];exact zPe h2);rw[Bool.or_true];refine⟨hs,(fun e=>by cases e),fun _=>?_⟩;cases b with
  |false=>
   have e1:=(h.no rfl).1;rw[e1]at hg⊢;exact hg
  |true=>exact Nat.lt_trans hg (h.yes rfl)
theorem fN.all{G}{n}{C0 C}{j}(h:fN G n C0 j C false)(hj:¬j<G.rules.length):C=aD G:=by
 obtain⟨e1,e3⟩:=h.no rfl
 have hc:∀x,Can G x->C x=true:=fun x k=>by
  induction k with
  |mk r hr _ ih=>
   obtain⟨i,hi,rfl⟩:=List.getElem_of_mem hr;rw[e1]at ih⊢;exact e3 i hi (by omega) (yA.2 fun z hz=>ih z hz)
 funext x
 rw[Bool.eq_iff_iff,rG];exact⟨h.snd x,hc x⟩
structure fO (G:ai) (n:Nat) (F0:Int->Int->Bool) (j:Nat) (F:Int->Int->Bool) (b:Bool):Prop where
 snd:oO G (aD G) F
 leaf:lT G F
 no:b=false->F=F0/\∀i (h:i<G.rules.length),i<j->∀t,dz (aD G) F0 G.rules[i].2 t=true->F0 G.rules[i].1 t=true
 yes:b=true->mO F (G.terms.length+1) n<mO F0 (G.terms.length+1) n
theorem zJn{G}{n}{F}(h:oO G (aD G) F)(hl:lT G F):fO G n F 0 F false:=⟨h,hl,fun _=>⟨rfl,fun i _ hi=>absurd hi (by omega)⟩,fun h=>by cases h⟩
theorem fO.step{G}{n}{F0 F}{j}{b c}(h:fO G n F0 j F b)(hl:Ir G n)(hj)(hc:c=true↔∃t,dz (aD G) F G.rules[j].2 t=true/\F G.rules[j].1 t=false):
  fO G n F0 (j+1) (dx (aD G) F G.rules[j]) (b||c):=by
 have hm:=List.getElem_mem hj;have hs:=h.snd.dx hm;have Cf:lT G (dx (aD G) F G.rules[j]):=fun x hx=>NR (h.leaf x hx)
 cases c with
 |false=>
  have hg:∀t,dz (aD G) F G.rules[j].2 t=true->F G.rules[j].1 t=true:=fun t k=>by
   cases e:F G.rules[j].1 t with
   |true=>rfl
   |false=>have:=hc.2 ⟨t,k,e⟩;cases this
  rw[zMb hg,Bool.or_false];refine⟨h.snd,h.leaf,fun e=>?_,h.yes⟩;obtain⟨e1,e3⟩:=h.no e;refine⟨e1,fun i hi hl=>?_⟩
  by_cases he:i=j
  ·subst he;rw[←e1];exact hg
  ·exact e3 i hi (by omega)
 |true=>
  obtain⟨t,h2,h3⟩:=hc.1 rfl;obtain⟨t0,t1⟩:=DV (h.snd.line h2);obtain⟨l0,l1⟩:=hl _ hm;have et:((t.toNat:Nat):Int)=t:=by omega
  have e:((G.rules[j].1.toNat:Nat):Int)=G.rules[j].1:=by omega
  have hg:=Wy (F:=F) (H:=dx (aD G) F G.rules[j]) (m:=G.terms.length+1) (n:=n) (k:=G.rules[j].1.toNat) (fun x t _ _ k=>NR k) (by omega)
   (Ns (k:=t.toNat) (fun i _ k=>NR k) (by omega) (by rw[e,et];exact h3) (by rw[e,et];exact zPf h2))
  rw[Bool.or_true];refine⟨hs,Cf,(fun e=>by cases e),fun _=>?_⟩;cases b with
  |false=>
   have e1:=(h.no rfl).1;rw[e1]at hg⊢;exact hg
  |true=>exact Nat.lt_trans hg (h.yes rfl)
theorem fO.all{G}{n}{F0 F}{j}(h:fO G n F0 j F false)(hj:¬j<G.rules.length):F=aK G:=by
 obtain⟨e1,e3⟩:=h.no rfl
 have hJ:gy G (aD G) F:=XI h.snd h.leaf fun r hr=>by
  obtain⟨i,hi,rfl⟩:=List.getElem_of_mem hr;refine⟨fun k=>rG.2 (.mk _ hr fun z hz=>rG.1 (yA.1 k z hz)),?_⟩;rw[e1];exact e3 i hi (by omega)
 exact hJ.eq.2
theorem zVA{G}{B}(h:∀x t,B x t=true↔oL G x t):B=gB G:=by
 funext x t
 rw[Bool.eq_iff_iff,h,zQA]
theorem zPC(G):∀x,uP x=true->Can G x:=fun x h=>by cases h
theorem zWp(G):oO G (aD G) (mF G):=⟨fun x h=>rG.1 h,(Mc G).fst⟩
def iL(C:Int->Bool):List Int->Nat
 |[]=>0
 |y::l=>if C y=true then iL C l+1 else 1
theorem zQI(C)(l):iL C l<=l.length:=by
 induction l with
 |nil=>exact Nat.le_refl _
 |cons y l ih=>
  unfold iL;rw[List.length_cons];split<;>omega
theorem U8{C}:∀{l:List Int} {i:Nat} (h:i<l.length),(∀k (hk:k<l.length),k<i->C l[k]=true)->C l[i]=false->iL C l=i+1/\bC C l=false
 |[],i,h,_,_=>absurd h (by simp)
 |y::l,0,_,_,hc=>by
  have hy:C y=false:=hc;unfold iL;rw[hy];exact⟨rfl,by unfold bC;rw[List.all_cons,hy];rfl⟩
 |y::l,i+1,h,hb,hc=>by
  have hy:C y=true:=hb 0 (by simp) (by omega);obtain⟨e1,e2⟩:=U8 (C:=C) (l:=l) (i:=i) (by simpa using h) (fun k hk Km=>hb (k+1) (by simpa using hk) (by omega)) hc;unfold iL;rw[hy,e1];refine⟨rfl,?_⟩;unfold bC at e2⊢;rw[List.all_cons,hy,e2]
  rfl
theorem U7{C}:∀{l:List Int},(∀k (hk:k<l.length),C l[k]=true)->iL C l=l.length/\bC C l=true
 |[],_=>⟨rfl,rfl⟩
 |y::l,hb=>by
  have hy:C y=true:=hb 0 (by simp);obtain⟨e1,e2⟩:=U7 (C:=C) (l:=l) (fun k hk=>hb (k+1) (by simpa using hk));unfold iL;rw[hy,e1];refine⟨rfl,?_⟩;unfold bC at e2⊢;rw[List.all_cons,hy,e2]
  rfl
theorem zP(C)(F)(t):∀l:List Int,((l.take (iL C l)).any fun y=>F y t)=dz C F l t
 |[]=>rfl
 |y::l=>by
  have ih:=zP C F t l;unfold iL dz;cases hy:C y with
  |true=>simp only[if_pos,List.take_succ_cons,List.any_cons,ih,Bool.true_and]
  |false=>simp
def cF(P:Int->Bool):Nat->Bool:=fun i=>P (i:Int)
def lV(P:Int->Bool)(n:Nat):Prop:=∀x,P x=true->0<=x/\x<(n:Int)
theorem zVI{P}{n}(h:lV P n)(x):has (cF P) x=P x:=by
 unfold has cF
 by_cases h0:0<=x
 ·rw[decide_eq_true h0,show((x.toNat:Nat):Int)=x from by omega]
  rfl
 ·rw[decide_eq_false h0];cases e:P x with
  |false=>rfl
  |true=>exact absurd (h x e).1 h0
theorem zUb{P}{n}(h:lV P n)(hn:n<=4096):bz (cF P) n:=⟨hn,fun i hi=>by
 unfold cF;cases e:P (i:Int)with
 |false=>rfl
 |true=>have:=(h _ e).2;omega⟩
theorem zU1{P}{n}(h:lV P n)(hn:n<=4096):(els (cF P)).map (fun i:Nat=>(i:Int))=jo P n:=by
 rw[EJ (zUb h hn)]
 rfl
def jn(B:Nat->Bool)(F:Int->Int->Bool)(X:List Int):Nat->Bool:=fun i=>B i||X.any fun y=>F y (i:Int)
theorem zVK(B)(F):jn B F []=B:=by
 funext i
 simp[jn]
theorem zTh{B}{F}{n}(X){y}(h:lV (F y) n):eP (jn B F X) n (cF (F y))=jn B F (X++[y]):=by
 funext i
 unfold eP jn cF;rw[List.any_append];cases e:F y (i:Int)with
 |false=>simp[e]
 |true=>
  have:=(h _ e).2;have h2:i<n:=by omega
  simp[e,h2]
theorem zTg{B}{F}(X){y}(h:B=cF (F y)):jn B F X=jn B F (X++[y]):=by
 funext i
 unfold jn;rw[List.any_append,h];unfold cF;cases e:F y (i:Int)<;>simp[e]
def Gn(B:Nat->Bool)(F:Int->Int->Bool)(X:List Int)(b:Bool):Prop:=b=true↔∃i:Nat,(∃y∈X,F y (i:Int)=true)/\B i=false
theorem zVF(B)(F):Gn B F [] false:=by
 unfold Gn;constructor
 ·intro h;cases h
 ·rintro⟨_,⟨_,h,_⟩,_⟩;cases h
theorem zTR{B}{F}{n}{X}{y}{b}(h:lV (F y) n)(hb:Gn B F X b):Gn B F (X++[y]) (b||gains (jn B F X) n (cF (F y))):=by
 unfold Gn at hb⊢;rw[Bool.or_eq_true,hb];constructor
 ·rintro(⟨i,⟨z,hz,h1⟩,h2⟩|hg)
  ·exact⟨i,⟨z,List.mem_append_left _ hz,h1⟩,h2⟩
  ·unfold gains at hg;rw[List.any_eq_true]at hg;obtain⟨i,hi,h1⟩:=hg;rw[Bool.and_eq_true]at h1;refine⟨i,⟨y,by simp,h1.1⟩,?_⟩;have h2:=h1.2;unfold jn at h2;cases e:B i with
   |false=>rfl
   |true=>rw[e]at h2;simp at h2
 ·rintro⟨i,⟨z,hz,h1⟩,h2⟩;rcases List.mem_append.1 hz with hz|hz
  ·exact .inl ⟨i,⟨z,hz,h1⟩,h2⟩
  ·rw[List.mem_singleton]at hz;subst hz
   by_cases e:∃y∈X,F y (i:Int)=true
   ·exact .inl ⟨i,e,h2⟩
   ·refine .inr (Bt.zNH (i:=i) (by have:=(h _ h1).2;omega) ?_ h1);unfold jn;rw[h2,Bool.false_or,List.any_eq_false];exact fun y hy k=>e ⟨y,hy,k⟩
theorem zTQ{B}{F}{X}{y}{b}(h:∀i:Nat,F y (i:Int)=true->B i=true)(hb:Gn B F X b):Gn B F (X++[y]) b:=by
 unfold Gn at hb⊢;rw[hb];constructor
 ·rintro⟨i,⟨z,hz,h1⟩,h2⟩;exact⟨i,⟨z,List.mem_append_left _ hz,h1⟩,h2⟩
 ·rintro⟨i,⟨z,hz,h1⟩,h2⟩;rcases List.mem_append.1 hz with hz|hz
  ·exact⟨i,⟨z,hz,h1⟩,h2⟩
  ·rw[List.mem_singleton]at hz;subst hz;rw[h i h1]at h2;cases h2
end Fi
namespace Bt
open Go.RowKit
theorem yI(n:Nat):IntKind.u64.wrap (n:Int)=((n % 18446744073709551616:Nat):Int):=by rw[IntKind.wrap_u64];omega
theorem zLC(i):IntKind.u64.wrap (2^(i % 64))=(mG i:Int):=by
 have h:=yB i;have e:((2:Int)^(i % 64))=((mG i:Nat):Int):=by simp[mG]
 rw[e,yI,Nat.mod_eq_of_lt h]
theorem NI(i:Nat)(w)(hi:i<=9223372036854775807):
  Calls Tryz.prog 192 #[.int .i64 i] w fun e w'=>e=.returned (.int .u64 (mG i))/\w=w':=by
 go_enter Tryz.func192,Tryz.ntmps192;go_wp2;go_ret;refine⟨?_,rfl⟩;simp[zLC]
theorem zJG(y:Nat)(hy:y<=9223372036854775807):bits .and .i64 (y:Int) 127=((y % 128:Nat):Int):=by
 have h1:(BitVec.ofInt 64 (y:Int)).toNat=y:=by
  rw[BitVec.ofInt_natCast,BitVec.toNat_ofNat];exact Nat.mod_eq_of_lt (by omega)
 have h2:(BitVec.ofInt 64 (127:Int)).toNat=127:=rfl;show IntKind.i64.wrap ((BitVec.ofInt 64 (y:Int)&&& BitVec.ofInt 64 (127:Int)).toNat:Int)= _;have e:y&&& 127=y % 128:=Nat.and_two_pow_sub_one_eq_mod y 7;rw[BitVec.toNat_and,h1,h2,e];exact IntWalk.i64_in _ (by omega)
theorem zLt(x:Nat)(hx:x<18446744073709551616):∃y1 y2 y3 y4 y5 y6:Nat,
  IntKind.u64.wrap (bits BinOp.and IntKind.u64 ((x:Int) / 2) 6148914691236517205+bits BinOp.and IntKind.u64 (x:Int) 6148914691236517205)=(y1:Int)/\
  IntKind.u64.wrap (bits BinOp.and IntKind.u64 ((y1:Int) / 4) 3689348814741910323+bits BinOp.and IntKind.u64 (y1:Int) 3689348814741910323)=(y2:Int)/\
  bits BinOp.and IntKind.u64 (IntKind.u64.wrap ((y2:Int) / 16+(y2:Int))) 1085102592571150095=(y3:Int)/\
  IntKind.u64.wrap ((y3:Int)+(y3:Int) / 256)=(y4:Int)/\
  IntKind.u64.wrap ((y4:Int)+(y4:Int) / 65536)=(y5:Int)/\
  IntKind.u64.wrap ((y5:Int)+(y5:Int) / 4294967296)=(y6:Int)/\
  y6<=9223372036854775807/\
  bits .and .i64 (y6:Int) 127=(vs 1 64 x:Int):=by
 obtain⟨h0,h6,h1,h2,h3,h3',h4,h5⟩:=ones x hx;refine⟨o1 x,o2 (o1 x),o3 (o2 (o1 x)),o4 256 (o3 (o2 (o1 x))),o4 65536 (o4 256 (o3 (o2 (o1 x)))),o4 4294967296 (o4 65536 (o4 256 (o3 (o2 (o1 x))))),?_,?_,?_,?_,?_,?_,by omega,?_⟩
 ·rw[show(x:Int) / 2=((x / 2:Nat):Int)from by omega,show(6148914691236517205:Int)=((6148914691236517205:Nat):Int)from rfl,bits_and_u64_nat _ _ (by omega) (by omega),bits_and_u64_nat _ _ hx (by omega),←Int.natCast_add,yI];exact congrArg _ (Nat.mod_eq_of_lt h1)
 ·generalize o1 x=y at*;rw[show(y:Int) / 4=((y / 4:Nat):Int)from by omega,show(3689348814741910323:Int)=((3689348814741910323:Nat):Int)from rfl,bits_and_u64_nat _ _ (by omega) (by omega),bits_and_u64_nat _ _ h1 (by omega),←Int.natCast_add,yI];exact congrArg _ (Nat.mod_eq_of_lt h2)
 ·generalize o2 (o1 x)=y at*;rw[show(y:Int) / 16+(y:Int)=((y / 16+y:Nat):Int)from by omega,yI,Nat.mod_eq_of_lt h3,show(1085102592571150095:Int)=((1085102592571150095:Nat):Int)from rfl,bits_and_u64_nat _ _ h3 (by omega)]
  rfl
 ·generalize o3 (o2 (o1 x))=y at*;rw[show(y:Int)+(y:Int) / 256=((o4 256 y:Nat):Int)from by unfold o4;omega,yI,Nat.mod_eq_of_lt (by omega)]
 ·generalize o4 256 (o3 (o2 (o1 x)))=y at*;rw[show(y:Int)+(y:Int) / 65536=((o4 65536 y:Nat):Int)from by unfold o4;omega,yI,Nat.mod_eq_of_lt (by omega)]
 ·generalize o4 65536 (o4 256 (o3 (o2 (o1 x))))=y at*;rw[show(y:Int)+(y:Int) / 4294967296=((o4 4294967296 y:Nat):Int)from by unfold o4;omega,yI,Nat.mod_eq_of_lt (by omega)]
 ·rw[zJG _ (by omega),h0]
theorem zRC(x:Nat)(w)(hx:x<18446744073709551616):
  Calls Tryz.prog 193 #[.int .u64 x] w fun e w'=>e=.returned (.int .i64 (vs 1 64 x))/\w=w':=by
 obtain⟨y1,y2,y3,y4,y5,y6,e1,e2,e3,e4,e5,e6,l6,e7⟩:=zLt x hx;clear hx;go_enter Tryz.func193,Tryz.ntmps193;go_wp2;go_ret;exact⟨rfl,rfl⟩
def jA(w:World):Prop:=TabAt 0 Lib.deBruijn64tab w
theorem zUa(x k idx:Nat)(w)(hx0:((x:Int)==0)=false)
  (key:IntKind.u64.wrap (bits BinOp.and IntKind.u64 (x:Int) (IntKind.u64.wrap (-(x:Int)))*285870213051353865) / 288230376151711744=(idx:Int))
  (hi:idx<64) (hk:k<64) (hcell:w.cell? ⟨0,idx,none⟩=some (.int .u8 k)):
  Calls Tryz.prog 194 #[.int .u64 x] w fun e w'=>e=.returned (.int .i64 k)/\w=w':=by
 go_enter Tryz.func194,Tryz.ntmps194;go_wp2_with (simp only[key]);go_ret;exact⟨rfl,rfl⟩
theorem zVp(x:Nat)(hx0:x≠0)(hx:x<18446744073709551616)(w)(hT:jA w):
  Calls Tryz.prog 194 #[.int .u64 x] w fun e w'=>e=.returned (.int .i64 (Lib.ctz 64 x))/\w=w':=by
 obtain⟨qE,hk⟩:=Lib.lowest_bit 64 x hx0 hx;obtain⟨hi,bF⟩:=Lib.deBruijn64_at _ hk;have hcell:=hT _ hi;rw[bF]at hcell;exact zUa x _ _ w (by simp;omega) (tz64_key x _ hx hx0 qE) hi hk hcell
end Bt
namespace Bt
open Go.RowKit
def sz(n:Nat):Nat:=(n+63) / 64
structure az (p d n:Nat) (B:Nat->Bool) (w:World):Prop where
 room:w.cell? ⟨p,0,none⟩=some (.int .i64 n)
 words:w.cell? ⟨p,1,none⟩=some (.slice (some ⟨d,0,none⟩) (sz n) (sz n))
 holds:∀k,k<sz n->w.cell? ⟨d,k,none⟩=some (.int .u64 (wd B k))
 free:∀k,k<sz n->w.frozen? ⟨d,k,none⟩=false
 apart:p≠d
 inp:p<w.heap.size
 ind:d<w.heap.size
 upto:bz B n
theorem az.keep{p d n}{B}{w w'}(h:az p d n B w)(hs:w.heap.size<=w'.heap.size)(hp:w'.heap[p]?=w.heap[p]?)(hd:w'.heap[d]?=w.heap[d]?):az p d n B w':=
 ⟨(World.cell?_of_block (a:=⟨p,0,none⟩) hp).trans h.room,(World.cell?_of_block (a:=⟨p,1,none⟩) hp).trans h.words,
  fun k hk=>(World.cell?_of_block (a:=⟨d,k,none⟩) hd).trans (h.holds k hk),fun k hk=>(World.frozen?_of_block (a:=⟨d,k,none⟩) hd).trans (h.free k hk),
  h.apart,Nat.lt_of_lt_of_le h.inp hs,Nat.lt_of_lt_of_le h.ind hs,h.upto⟩
inductive dA:Value->Nat->(Nat->Bool)->World->Prop
 |nil (w:World):dA (.pointer none) 0 (fun _=>false) w
 |at_ {p d n:Nat} {B:Nat->Bool} {w:World} (h:az p d n B w):dA (.pointer (some ⟨p,0,none⟩)) n B w
theorem dA.upto{v}{n}{B}{w}(h:dA v n B w):bz B n:=by
 cases h with
 |nil=>exact .none
 |at_ h=>exact h.upto
theorem dA.keep{v}{n}{B}{w w'}(h:dA v n B w)(hs:w'.heap=w.heap):dA v n B w':=by
 cases h with
 |nil=>exact .nil _
 |at_ h=>exact .at_ (h.keep (by rw[hs];exact Nat.le_refl _) (by rw[hs]) (by rw[hs]))
theorem dA.drew{v}{n}{B}{w}(h:dA v n B w)(m):dA v n B (w.drewN m):=h.keep (by rfl)
theorem uO{n}(h:n<=4096):sz n<=64:=by unfold sz;omega
theorem zRb{v}{n}{B}(w)(h:dA v n B w):
  Calls Tryz.prog 222 #[v] w fun e w'=>e=.returned (.int .i64 n)/\w=w':=by
 cases h with
 |nil=>
  go_enter Tryz.func222,Tryz.ntmps222;go_wp2;go_ret;exact⟨rfl,rfl⟩
 |@at_ p d n B w h=>
  have h0:=h.room;clear h;go_enter Tryz.func222,Tryz.ntmps222;go_wp2;go_ret;exact⟨rfl,rfl⟩
theorem zW{v}{n}{B}(w)(h:dA v n B w):
  Calls Tryz.prog 187 #[v] w fun e w'=>e=.returned (.int .i64 (sz n))/\w=w':=by
 cases h with
 |nil=>
  go_enter Tryz.func187,Tryz.ntmps187;go_wp2;go_ret;exact⟨rfl,rfl⟩
 |@at_ p d n B w h=>
  have h0:=h.words;clear h;go_enter Tryz.func187,Tryz.ntmps187;go_wp2;go_ret;exact⟨rfl,rfl⟩
theorem zVy{B}{n k}(h:bz B n)(hk:¬k<sz n):wd B k=0:=
 wK.2 fun j _=>h.2 _ (by unfold sz at hk;omega)
theorem Hu{v}{n}{B}(w)(h:dA v n B w)(k:Nat):
  Calls Tryz.prog 188 #[v,.int .i64 k] w fun e w'=>e=.returned (.int .u64 (wd B k))/\w=w':=by
 have hsz:=zW w h;have PG:=af hsz;clear hsz
 by_cases hlt:k<sz n
 ·cases h with
  |nil=>simp[sz]at hlt
  |@at_ p d n B w h=>
   have h0:=h.words;have h1:=h.holds k hlt;have hb:sz n<=64:=uO h.upto.1;clear h;go_enter Tryz.func188,Tryz.ntmps188;go_wp2_with (go_at_call 187;refine PG.out.mono ?_;rintro e w' ⟨rfl,rfl⟩);go_ret;exact⟨rfl,rfl⟩
 ·have h0:=af (zVy h.upto hlt);clear h;go_enter Tryz.func188,Tryz.ntmps188;go_wp2_with (go_at_call 187;refine PG.out.mono ?_;rintro e w' ⟨rfl,rfl⟩);go_ret;exact⟨by rw[h0.out];rfl,rfl⟩
def fit(n:Nat)(i:Int):Bool:=decide (0<=i)&&decide (i<(n:Int))
theorem Hg{v}{n}{B}(w)(h:dA v n B w)(i):
  Calls Tryz.prog 190 #[v,.int .i64 i] w fun e w'=>e=.returned (.bool (fit n i))/\w=w':=by
 have HR:=af (zRb w h);clear h
 by_cases h0:0<=i
 ·by_cases h1:i<(n:Int)
  ·have HF:=af (show fit n i=true by simp[fit,h0,h1]);go_enter Tryz.func190,Tryz.ntmps190;go_wp2_with (go_at_call 222;refine HR.out.mono ?_;rintro e w' ⟨rfl,rfl⟩);go_ret;exact⟨by rw[HF.out];first|rfl|(simp;omega),rfl⟩
  ·have HF:=af (show fit n i=false by simp[fit,h0,h1]);go_enter Tryz.func190,Tryz.ntmps190;go_wp2_with (go_at_call 222;refine HR.out.mono ?_;rintro e w' ⟨rfl,rfl⟩);go_ret;exact⟨by rw[HF.out];first|rfl|(simp;omega),rfl⟩
 ·have HF:=af (show fit n i=false by simp[fit,h0]);go_enter Tryz.func190,Tryz.ntmps190;go_wp2_with (go_at_call 222;refine HR.out.mono ?_;rintro e w' ⟨rfl,rfl⟩);go_ret;exact⟨by rw[HF.out];rfl,rfl⟩
theorem flip{P}{f}{args}{w}{v}(h:Calls P f args w fun e w'=>e=.returned v/\w=w'):Calls P f args w fun e w'=>e=.returned v/\w'=w:=
 h.mono fun _ _ ⟨h1,h2⟩=>⟨h1,h2.symm⟩
theorem Xh{n}{i}(h:fit n i=true):∃j:Nat,i=(j:Int)/\j<n:=by
 simp only[fit,Bool.and_eq_true,decide_eq_true_eq]at h;exact⟨i.toNat,by omega,by omega⟩
theorem zTT{n}{B}(hB:bz B n){i}(h:fit n i=false):has B i=false:=by
 simp only[fit,Bool.and_eq_false_iff,decide_eq_false_iff_not]at h;unfold has
 by_cases h0:0<=i
 ·rcases h with h|h
  ·exact absurd h0 h
  ·rw[hB.2 _ (by omega)];simp
 ·simp[h0]
theorem Xy(B)(j:Nat):has B (j:Int)=B j:=by simp[has]
theorem zPl(B)(j):∃m:Nat,bits BinOp.and IntKind.u64 (wd B (j / 64):Int) (mG j:Int)=(m:Int)/\((m:Int) != 0)=B j:=by
 refine⟨_,bits_and_u64_nat _ _ (lA _ _) (yB _),?_⟩;have h:=zQH B j;cases hb:B j with
 |false=>
  rw[hb]at h
  have:wd B (j / 64)&&& mG j=0:=by
   refine Classical.byContradiction fun hn=>?_
   exact absurd (h.1 hn) (by simp)
  rw[this];rfl
 |true=>
  have:=h.2 hb;rw[bne_iff_ne];omega
def Draws(v:Value)(w:World)(e:Ending)(w':World):Prop:=e=.returned v/\∃m,w'=w.drewN m
theorem Xx{v}{n}{B}(w)(h:dA v n B w)(i)(hi:i<=9223372036854775807):
  Calls Tryz.prog 191 #[v,.int .i64 i] w (Draws (.bool (has B i)) w):=by
 have HF:=af (fun m=>flip (Hg (w.drewN m) (h.drew m) i));cases hf:fit n i with
 |false=>
  have HH:=af (zTT h.upto hf);rw[hf]at HF;clear h hf;go_enter Tryz.func191,Tryz.ntmps191;go_wp2_with fail;go_quiet ((go_at_call 190;exact Calls.quiet_of_same (HF.out _)));go_wp2;go_ret;exact⟨by rw[HH.out];rfl,nq,rfl⟩
 |true=>
  obtain⟨j,rfl,hj⟩:=Xh hf;cases h with
  |nil=>omega
  |@at_ p d n B w h=>
   rw[hf]at HF;have h0:=h.words;have hlt:j / 64<sz n:=by unfold sz;omega
   have h1:=h.holds (j / 64) hlt;have hb:sz n<=64:=uO h.upto.1;have h2:=h.upto.1;have HB:=af (fun m=>flip (NI j (w.drewN m) (by omega)));obtain⟨m,e1,e2⟩:=zPl B j;rw[Xy,←e2];clear h hf e2;go_enter Tryz.func191,Tryz.ntmps191;go_wp2_with fail;go_quiet (first|(go_at_call 190;exact Calls.quiet_of_same (HF.out _))|(go_at_call 192;exact Calls.quiet_of_same (HB.out _)));go_wp2;go_ret;exact⟨rfl,nq,rfl⟩
end Bt
namespace Bt
open Go.RowKit
def cnt(B:Nat->Bool)(k:Nat):Nat:=((List.range (64*k)).filter B).length
theorem zPv(B)(k):cnt B (k+1)=cnt B k+vs 1 64 (wd B k):=zLQ B k
theorem zPw(B):cnt B 0=0:=by simp[cnt]
theorem zUx(B)(k):cnt B k<=64*k:=UG B _
theorem zS5{B}{n}(h:bz B n):cnt B (sz n)=(els B).length:=zMz h (by unfold sz;omega)
theorem zMy{v}{n}{B}(w)(h:dA v n B w):
  Calls Tryz.prog 167 #[v] w fun e w'=>e=.returned (.int .i64 (els B).length)/\w=w':=by
 have HS:=af (zW w h);have HW:=af (Hu w h);have HO:=af (fun k=>zRC (wd B k) w (lA B k));have HE:=af (zS5 h.upto);have hb:sz n<=64:=uO h.upto.1;clear h;go_enter Tryz.func167,Tryz.ntmps167;go_wp2_with (go_at_call 187;refine HS.out.mono ?_;rintro e w' ⟨rfl,rfl⟩);go_loop [3,7] (fun c i=>∃k:Nat,k<=sz n/\i=.int .i64 k/\c=.int .i64 (cnt B k)) (fun _ i=>sz n-(intOf i).toNat)
 case atStart=>exact⟨0,Nat.zero_le _,rfl,by rw[zPw];rfl⟩
 case round=>
  obtain⟨k,hk,rfl,rfl⟩:=hrel;have hc:=zUx B k;have hc0:(0:Int)<=(cnt B k:Int):=by omega
  by_cases hlt:k<sz n
  ·have hv:=zWs 64 (wd B k);have HC:=af (zPv B k);go_wp2_with (first|(go_at_call 188;refine(HW.out _).mono ?_;rintro e w' ⟨rfl,rfl⟩)|(go_at_call 193;refine(HO.out _).mono ?_;rintro e w' ⟨rfl,rfl⟩));go_round
   case rel=>exact⟨k+1,by omega,by go_num,by rw[HC.out];go_num⟩
   case measure=>simp[intOf];omega
  ·have he:k=sz n:=by omega
   have ZJ:Hid (cnt B k=(els B).length):=by rw[he];exact HE.out
   clear he;go_wp2;go_ret;exact⟨by rw[ZJ.out];rfl,rfl⟩
def qd(B:Nat->Bool)(i k:Nat):Prop:=∀j,i<=j->j<64*k->B j=false
def below(i k:Nat):Nat:=if k=i / 64 then mG i-1 else 0
theorem zPk(i k):below i k<18446744073709551616:=by
 have:=yB i;unfold below;split<;>omega
theorem zLB(B)(i k)(h:i / 64<=k):bits BinOp.andNot IntKind.u64 (wd B k:Int) (below i k:Int)=(wd (from_ B i) k:Int):=by
 have hb:=zPk i k;have h1:=lA B k;rw[u64_andNot _ _ (by omega) (by omega) (by omega) (by omega),Int.toNat_natCast,Int.toNat_natCast]
 congr 1
 unfold below;split
 ·rename_i e;rw[e];exact zIz B i
 ·rw[zI0 B i k (by omega),Nat.sub_zero]
  apply Nat.eq_of_testBit_eq
  intro j;rw[Nat.testBit_and,oH,show 18446744073709551615=2^64-1 from rfl,Nat.testBit_two_pow_sub_one]
  by_cases hj:j<64<;>simp[hj]
theorem zMd{B}{i k}(h:qd B i k)(hz:wd (from_ B i) k=0):qd B i (k+1):=by
 intro j hij hj
 by_cases hlt:j<64*k
 ·exact h j hij hlt
 ·have:=wK.1 hz (j-64*k) (by omega);rw[show 64*k+(j-64*k)=j from by omega]at this
  simpa[from_,hij]using this
theorem zK7{B}{n i k}(hB:bz B n)(h:qd B i k)(hz:wd (from_ B i) k≠0):
  Lib.ctz 64 (wd (from_ B i) k)<64/\next B (i:Int)=((k*64+Lib.ctz 64 (wd (from_ B i) k):Nat):Int):=by
 obtain⟨hc,h1,h2⟩:=zS6 hz (lA _ _);refine⟨hc,?_⟩;generalize Lib.ctz 64 (wd (from_ B i) k)=c at*;rw[oH]at h1;have e:k*64+c=64*k+c:=by omega
 simp only[from_,Bool.and_eq_true,decide_eq_true_eq]at h1;rw[e];refine zQ2 hB _ (by omega) h1.2.1 fun j hij hj=>?_
 by_cases hlt:j<64*k
 ·exact h j (by omega) hlt
 ·have:=h2 (j-64*k) (by omega);rw[oH,show 64*k+(j-64*k)=j from by omega]at this;have h3:j-64*k<64:=by omega
  have h4:i<=j:=by omega
  simpa[from_,h3,h4]using this
theorem zPh{B}{n i k}(hB:bz B n)(hk:sz n<=k)(h:qd B i k):next B (i:Int)= -1:=
 zTp _ fun j hij=>by
  by_cases hlt:j<64*k
  ·exact h j (by omega) hlt
  ·exact hB.2 j (by unfold sz at hk;omega)
theorem zMI(i):IntKind.u64.wrap ((mG i:Int)-1)=(below i (i / 64):Int):=by
 have:=yB i;have:=UO i;rw[IntKind.wrap_u64];simp only[below,if_true];omega
theorem zK9(i k)(h:i / 64<=k):below i (k+1)=0:=by
 unfold below;rw[if_neg (by omega)]
theorem zQ1{v}{n}{B}(w)(h:dA v n B w)(hT:jA w)(f)(i:Nat)(hf:max f 0=(i:Int))(hi:i<=9223372036854775807):
  Calls Tryz.prog 168 #[v,.int .i64 f] w fun e w'=>e=.returned (.int .i64 (next B (i:Int)))/\w=w':=by
 have HS:=af (zW w h);have HW:=af (Hu w h);have HT:=af hT;have HU:=af h.upto;have HB:=af (NI i w hi);have hb:sz n<=64:=uO h.upto.1;have hw:=zMI i;clear h hT;have HF:=af hf;clear hf;go_enter Tryz.func168,Tryz.ntmps168;go_upto_region 1 with(fail)
 go_cut [1] (fun s1 wx=>s1=.int .i64 (i:Int)/\w=wx)
 case first=>
  by_cases hneg:f<0
  ·have HI:=af (show(i:Int)=0 by have:=HF.out;omega);go_wp2;go_meet
   case rel=>exact⟨by rw[HI.out],rfl⟩
  ·have HI:=af (show(i:Int)=f by have:=HF.out;omega);go_wp2;go_meet
   case rel=>exact⟨by rw[HI.out],rfl⟩
 case rest=>
  obtain⟨rfl,rfl⟩:=hcut;go_wp2_with (go_at_call 192;refine HB.out.mono ?_;rintro e w' ⟨rfl,rfl⟩);clear hw;go_loop [5,6] (fun b s=>∃k:Nat,i / 64<=k/\s=.int .i64 k/\b=.int .u64 (below i k)/\qd B i k) (fun _ s=>sz n-(intOf s).toNat)
  case atStart=>exact⟨i / 64,Nat.le_refl _,by rw[show((i / 64:Nat):Int)=(i:Int) / 64 from by omega],rfl,fun j hij hj=>by omega⟩
  case round=>
   obtain⟨k,hk,rfl,rfl,ha⟩:=hrel;have HA:=af ha;clear ha
   by_cases hlt:k<sz n
   ·have HE:=zLB B i k hk
    by_cases hz:wd (from_ B i) k=0
    ·have HN:=af (zMd HA.out hz);have HL:=af (zK9 i k hk);rw[hz]at HE;clear hz;go_wp2_with (first|(go_at_call 187;refine HS.out.mono ?_;rintro e w' ⟨rfl,rfl⟩)|(go_at_call 188;refine(HW.out _).mono ?_;rintro e w' ⟨rfl,rfl⟩));go_round
     case rel=>exact⟨k+1,by omega,by go_num,by rw[HL.out];rfl,HN.out⟩
     case measure=>simp[intOf];omega
    ·obtain⟨hc,hn⟩:=zK7 HU.out HA.out hz;have HN:=af hn;have hne:((wd (from_ B i) k:Int) != 0)=true:=by rw[bne_iff_ne];omega
     have HZ:=af (zVp _ hz (lA _ _) w HT.out);clear hz hn;generalize Lib.ctz 64 (wd (from_ B i) k)=c at*;generalize wd (from_ B i) k=z at*;go_wp2_with (first|(go_at_call 187;refine HS.out.mono ?_;rintro e w' ⟨rfl,rfl⟩)|(go_at_call 188;refine(HW.out _).mono ?_;rintro e w' ⟨rfl,rfl⟩)|(go_at_call 194;refine HZ.out.mono ?_;rintro e w' ⟨rfl,rfl⟩));go_ret;exact⟨by rw[HN.out];simp,rfl⟩
   ·have HN:=af (zPh HU.out (by omega) HA.out);go_wp2_with (go_at_call 187;refine HS.out.mono ?_;rintro e w' ⟨rfl,rfl⟩);go_ret;exact⟨by rw[HN.out];rfl,rfl⟩
theorem WA{v}{n}{B}(w)(h:dA v n B w)(hT:jA w)(f)(hf:f<=9223372036854775807):
  Calls Tryz.prog 168 #[v,.int .i64 f] w fun e w'=>e=.returned (.int .i64 (next B f))/\w=w':=by
 have e:max f 0=((max f 0).toNat:Int):=by omega
 have:=zQ1 w h hT f (max f 0).toNat e (by omega);rw[←e,zQ0]at this;exact this
end Bt
namespace Bt
open Go.RowKit
theorem zQS:(Tryz.prog.info? 261).map (fun i=>(i.zero,i.size,i.bytes))=some (some (.int .u64 0),1,8):=by kernel_rfl
theorem zLl(c:Nat)(hc:c<=4096)(w):
  (Instr.makeSlice 263 (.int .i64 (((c:Int)+64-1) / 64)) (.int .i64 (((c:Int)+64-1) / 64))).run Tryz.prog w=.ok (.slice (some ⟨w.heap.size,0,none⟩) (sz c) (sz c)) (w.alloc (.cells (madeCells #[.int .u64 0] (sz c)) 261)):=by
 have e:((c:Int)+64-1) / 64=((sz c:Nat):Int):=by unfold sz;omega
 have:=uO hc;rw[e];exact run_make_row' 263 261 (.int .u64 0) 8 Tryz.underlying263 zQS rfl .i64 .i64 (sz c) (by omega) (by omega) w
theorem zN8(k):wd (fun _=>false) k=0:=wK.2 fun _ _=>rfl
theorem MJ(n k)(h:k<n)(z):(madeCells #[z] n)[k]?=some z:=by
 simp[madeCells,h,Nat.mod_one]
def cap(n:Int):Nat:=(min (max n 0) 4096).toNat
theorem wM(n):cap n<=4096:=by unfold cap;omega
def Made(n:Nat)(w:World)(e:Ending)(w':World):Prop:=
 ∃p d,e=.returned (.pointer (some ⟨p,0,none⟩))/\w.heap.size<=p/\w.heap.size<=d/\az p d n (fun _=>false) w'/\Below w.heap.size w w'/\w'.heap[d]?=some (.cells (madeCells #[.int .u64 0] (sz n)) 261 (0,0))
theorem H7(n)(w):
  Calls Tryz.prog 165 #[.int .i64 n] w (Made (cap n) w):=by
 have hc:=wM n;go_enter Tryz.func165,Tryz.ntmps165;go_upto_region 1 with(fail)
 go_cut [0] (fun s1 wx=>s1=.int .i64 (cap n:Int)/\w=wx)
 case first=>
  by_cases hneg:n<0
  ·have HI:=af (show(cap n:Int)=0 by unfold cap;omega);go_wp2;go_meet
   case rel=>exact⟨by rw[HI.out],rfl⟩
  ·by_cases hbig:4096<n
   ·have HI:=af (show(cap n:Int)=4096 by unfold cap;omega);go_wp2;go_meet
    case rel=>exact⟨by rw[HI.out],rfl⟩
   ·have HI:=af (show(cap n:Int)=n by unfold cap;omega);go_wp2;go_meet
    case rel=>exact⟨by rw[HI.out],rfl⟩
 case rest=>
  obtain⟨rfl,rfl⟩:=hcut;generalize cap n=c at*;have hmk:=zLl c hc;go_wp2;go_ret;refine⟨w.heap.size+1,w.heap.size,rfl,by omega,Nat.le_refl _,⟨by simp,by simp,fun k hk=>?_,fun k hk=>?_,by omega,by simp,by simp;omega,.empty hc⟩,((Below.refl _ _).alloc (Nat.le_refl _) _).alloc (by simp) _,?_⟩
  ·rw[zN8];simp[MJ _ _ hk]
  ·simp
  ·rw[Below.heap_alloc _ _ _ (by simp)];exact Deep.blk_alloc_new _ _
structure aO (d:Nat) (w w':World):Prop where
 os:w'.os=w.os
 tape:w'.tape=w.tape
 output:w'.output=w.output
 size:w.heap.size<=w'.heap.size
 block:∀k,k<w.heap.size->k≠d->w'.heap[k]?=w.heap[k]?
theorem aO.refl(d)(w):aO d w w:=⟨rfl,rfl,rfl,Nat.le_refl _,fun _ _ _=>rfl⟩
theorem aO.trans{d}{a b c}(h:aO d a b)(k:aO d b c):aO d a c:=
 ⟨k.os.trans h.os,k.tape.trans h.tape,k.output.trans h.output,Nat.le_trans h.size k.size,fun i hi hd=>(k.block i (Nat.lt_of_lt_of_le hi h.size) hd).trans (h.block i hi hd)⟩
theorem aO.drewN{d}{a w}(h:aO d a w)(m):aO d a (w.drewN m):=⟨h.os,h.tape,h.output,h.size,h.block⟩
theorem aO.setCell{d}{a w}(h:aO d a w)(k)(u):aO d a (w.setCell ⟨d,k,none⟩ u):=
 h.trans ⟨rfl,rfl,rfl,by simp[World.setCell],fun i _ hd=>Below.heap_setCell _ _ _ _ (by simpa using hd)⟩
theorem aO.below{d m}{a w}(h:aO d a w)(hm:m<=d)(hs:m<=a.heap.size):Below m a w:=
 ⟨h.os,h.tape,h.output,h.size,fun i hi=>h.block i (by omega) (by omega)⟩
theorem az.keeps{p d n b}{B}{w w'}(h:az p d n B w)(k:aO b w w')(hp:p≠b)(hd:d≠b):az p d n B w':=
 h.keep k.size (k.block _ h.inp hp) (k.block _ h.ind hd)
theorem az.below{p d n m}{B}{w w'}(h:az p d n B w)(k:Below m w w')(hp:p<m)(hd:d<m):az p d n B w':=
 h.keep k.size (k.block _ hp) (k.block _ hd)
theorem az.drewN{p d n}{B}{w}(h:az p d n B w)(m):az p d n B (w.drewN m):=
 h.keep (Nat.le_refl _) rfl rfl
theorem az.store{p d n k}{B B'}{w}(h:az p d n B w)(hk:k<sz n)(hB:bz B' n)(ho:∀i,i≠k->wd B' i=wd B i):az p d n B' (w.setCell ⟨d,k,none⟩ (.int .u64 (wd B' k))):=by
 refine⟨?_,?_,fun i hi=>?_,fun i hi=>?_,h.apart,by simpa[World.setCell]using h.inp,by simpa[World.setCell]using h.ind,hB⟩
 ·rw[World.cell?_setCell_other _ _ _ _ (by intro e;exact h.apart (congrArg Addr.block e).symm)];exact h.room
 ·rw[World.cell?_setCell_other _ _ _ _ (by intro e;exact h.apart (congrArg Addr.block e).symm)];exact h.words
 ·by_cases e:i=k
  ·subst e;exact World.cell?_setCell_same _ _ _ (h.holds i hi)
  ·rw[World.cell?_setCell_other _ _ _ _ (by intro e2;exact e (congrArg Addr.off e2).symm),ho i e];exact h.holds i hi
 ·rw[World.frozen?_setCell];exact h.free i hi
def Wrote(r:Bool)(p d n:Nat)(B:Nat->Bool)(w:World)(e:Ending)(w':World):Prop:=e=.returned (.bool r)/\az p d n B w'/\aO d w w'
theorem zPm(B)(j):bits BinOp.or IntKind.u64 (wd B (j / 64):Int) (mG j:Int)=(wd (put B j) (j / 64):Int):=by
 rw[bits_or_u64_nat _ _ (lA _ _) (yB _),zRR]
theorem wL{p d n:Nat}{B:Nat->Bool}(w:World)(h:az p d n B w)(i:Int)(hi:i<=9223372036854775807):
  Calls Tryz.prog 166 #[.pointer (some ⟨p,0,none⟩),.int .i64 i] w (Wrote (bZ B n i) p d n (cE B n i) w):=by
 have HF:=af (Hg w (.at_ h) i);have HH:=af (Xx w (.at_ h) i hi);cases hf:fit n i with
 |false=>
  have e1:bZ B n i=false:=by simp only[fit]at hf;simp[bZ,hf]
  have e2:cE B n i=B:=by
   unfold cE;rw[if_neg];intro hc;simp[fit,hc.1,hc.2]at hf
  rw[e1,e2];rw[hf]at HF;have HA:=af h;clear h hf e1 e2;go_enter Tryz.func166,Tryz.ntmps166;go_wp2_with (go_at_call 190;refine HF.out.mono ?_;rintro e w' ⟨rfl,rfl⟩);go_ret;exact⟨rfl,HA.out,.refl _ _⟩
 |true=>
  obtain⟨j,rfl,hj⟩:=Xh hf;rw[hf]at HF;rw[Xy]at HH;cases hb:B j with
  |true=>
   have e1:bZ B n (j:Int)=false:=by simp[bZ,hb]
   have e2:cE B n (j:Int)=B:=by
    unfold cE;split
    ·exact zRQ hb
    ·rfl
   rw[e1,e2];rw[hb]at HH;have HA:=af h;clear h hf e1 e2 hb;go_enter Tryz.func166,Tryz.ntmps166;go_wp2_with (first|(go_at_call 190;refine HF.out.mono ?_;rintro e w' ⟨rfl,rfl⟩)|(go_at_call 191;refine HH.out.mono ?_;rintro e w' ⟨rfl,m,rfl⟩));go_ret;exact⟨rfl,HA.out.drewN _,(aO.refl _ _).drewN _⟩
  |false=>
   have e1:bZ B n (j:Int)=true:=by simp[bZ,hb,hj]
   have e2:cE B n (j:Int)=put B j:=by
    unfold cE;rw[if_pos (by omega)]
    rfl
   rw[e1,e2];rw[hb]at HH;have HA:=af h;have hlt:j / 64<sz n:=by unfold sz;omega
   have hs:sz n<=64:=uO h.upto.1;have h2:=h.upto.1;have HE:=af (zPm B j);clear h hf e1 e2 hb;go_enter Tryz.func166,Tryz.ntmps166;go_wp2_with (first|(go_at_call 190;refine HF.out.mono ?_;rintro e w' ⟨rfl,rfl⟩)|(go_at_call 191;refine HH.out.mono ?_;rintro e w' ⟨rfl,m,rfl⟩));have oN:=af (HA.out.drewN m);have Ap:=af ((aO.refl d w).drewN m);clear HA HF HH;generalize w.drewN m=w2 at*;have c0:=oN.out.words;have c1:=oN.out.holds _ hlt;have c2:=oN.out.free _ hlt;have HB:=af (flip (NI j w2.drew (by omega)));have he:=HE.out;have q1:IntKind.i64.wrap ((j:Int) / 64)=(j:Int) / 64:=IntWalk.i64_in _ (by omega);have q2:(0:Int)<=(j:Int) / 64:=by omega
   have q3:(j:Int) / 64<(sz n:Int):=by omega
   have q4:((j:Int) / 64).toNat=j / 64:=by omega
   go_still_tail 12,(by kernel_rfl)
   still_call (HB.out)
   repeat still_step
   refine wpStill_nil ?_;change wpList _ _ _ _ _ w2.drew;have HS:=af ((oN.out.drewN 1).store hlt (oN.out.upto.put hj) (fun i hi=>zOY B j i hi));have HK:=af ((Ap.out.drewN 1).setCell (j / 64) (.int .u64 (wd (put B j) (j / 64))));clear q1 q2 q3 q4 he HB HE oN Ap;go_wp2;go_ret;exact⟨rfl,HS.out,HK.out⟩
end Bt
namespace Bt
open Go.RowKit
def jF(B:Nat->Bool)(n:Nat)(C:Nat->Bool)(k:Nat):Nat->Bool:=fun j=>B j||(C j&&decide (j<n)&&decide (j<64*k))
def gk(B:Nat->Bool)(n:Nat)(C:Nat->Bool)(k:Nat):Bool:=(List.range n).any fun i=>decide (i<64*k)&&(C i&& !B i)
def more(B:Nat->Bool)(n:Nat)(C:Nat->Bool):Nat->Bool:=fun i=>(C i&&under n i)&& !B i
theorem zRI(B C)(n):jF B n C 0=B:=by funext j;simp[jF]
theorem zTP(B C)(n):gk B n C 0=false:=by simp[gk]
theorem zRH(B C)(n k):wd (jF B n C k) k=wd B k:=
 Eg fun j _=>by
  have:¬64*k+j<64*k:=by omega
  simp only[jF,this,decide_false,Bool.and_false,Bool.or_false]
theorem zOL(B C)(n k i)(h:i≠k):wd (jF B n C (k+1)) i=wd (jF B n C k) i:=
 Eg fun j _=>by
  have:decide (64*i+j<64*(k+1))=decide (64*i+j<64*k):=by simp;omega
  simp only[jF,this]
theorem zRF(B C)(n k):wd B k|||wd (more B n C) k=wd (jF B n C (k+1)) k:=by
 rw[Zn];refine Eg fun j hj=>?_
 have:64*k+j<64*(k+1):=by omega
 simp only[jF,more,under,this,decide_true,Bool.and_true];cases B (64*k+j)<;>simp
theorem zRE{B C}{n k}(h:wd (more B n C) k=0):jF B n C (k+1)=jF B n C k:=by
 funext i
 by_cases hi:64*k<=i/\i<64*(k+1)
 ·have hz:=wK.1 h (i-64*k) (by omega);rw[show 64*k+(i-64*k)=i from by omega]at hz;simp only[more,under]at hz;simp only[jF]
  revert hz
  cases B i<;>cases C i<;>by_cases hn:i<n<;>simp[hn]
 ·have:decide (i<64*(k+1))=decide (i<64*k):=by simp;omega
  simp only[jF,this]
theorem zTO{B C}{n k}(h:wd (more B n C) k=0):gk B n C (k+1)=gk B n C k:=by
 unfold gk;rw[Bool.eq_iff_iff,List.any_eq_true,List.any_eq_true];constructor
 ·rintro⟨i,hi,hb⟩;refine⟨i,hi,?_⟩;simp only[Bool.and_eq_true,decide_eq_true_eq]at hb⊢;refine⟨?_,hb.2⟩;refine Classical.byContradiction fun hn=>?_
  have hz:=wK.1 h (i-64*k) (by omega);rw[show 64*k+(i-64*k)=i from by omega]at hz;have:=List.mem_range.1 hi;simp[more,under,hb.2.1,this]at hz;simp[hz]at hb
 ·rintro⟨i,hi,hb⟩;refine⟨i,hi,?_⟩;simp only[Bool.and_eq_true,decide_eq_true_eq]at hb⊢;exact⟨by omega,hb.2⟩
theorem zTN{B C}{n k}(h:wd (more B n C) k≠0):gk B n C (k+1)=true:=by
 obtain⟨j,hj,hb⟩:=Zm h;simp only[more,under,Bool.and_eq_true,decide_eq_true_eq]at hb;unfold gk;rw[List.any_eq_true];refine⟨64*k+j,List.mem_range.2 hb.1.2,?_⟩;simp only[Bool.and_eq_true,decide_eq_true_eq];exact⟨by omega,hb.1.1,hb.2⟩
theorem zT2(B C)(n):jF B n C (sz n)=eP B n C:=by
 funext i
 simp only[jF,eP]
 by_cases hi:i<n
 ·have:i<64*sz n:=by unfold sz;omega
  simp[hi,this]
 ·simp[hi]
theorem zVE(B C)(n):gk B n C (sz n)=gains B n C:=by
 unfold gk gains;rw[Bool.eq_iff_iff,List.any_eq_true,List.any_eq_true];constructor
 ·rintro⟨i,hi,hb⟩;simp only[Bool.and_eq_true,decide_eq_true_eq]at hb;exact⟨i,hi,by simpa using hb.2⟩
 ·rintro⟨i,hi,hb⟩;have:=List.mem_range.1 hi;refine⟨i,hi,?_⟩;simp only[Bool.and_eq_true,decide_eq_true_eq]at hb⊢;exact⟨by unfold sz;omega,hb⟩
theorem zRG{B}{n}(h:bz B n)(C)(k):bz (jF B n C k) n:=
 ⟨h.1,fun j hj=>by
  have:¬j<n:=by omega
  simp[jF,h.2 j hj,this]⟩
inductive cO (d:Nat):Value->Nat->(Nat->Bool)->World->Prop
 |nil (w:World):cO d (.pointer none) 0 (fun _=>false) w
 |at_ {p2 d2 m:Nat} {C:Nat->Bool} {w:World} (h:az p2 d2 m C w) (hp:p2≠d) (hd:d2≠d):cO d (.pointer (some ⟨p2,0,none⟩)) m C w
theorem cO.set{d}{u}{m}{C}{w}(h:cO d u m C w):dA u m C w:=by
 cases h with
 |nil=>exact .nil _
 |at_ h _ _=>exact .at_ h
theorem cO.keeps{d}{u}{m}{C}{w w'}(h:cO d u m C w)(k:aO d w w'):cO d u m C w':=by
 cases h with
 |nil=>exact .nil _
 |at_ h hp hd=>exact .at_ (h.keeps k hp hd) hp hd
theorem zHj(n k:Nat)(h:64*k<n):∃X:Nat,Op.shift BinOp.shl IntKind.u64 1 IntKind.u64 ((n:Int)-(k:Int)*64)=pure (.int .u64 (X:Int))/\IntKind.u64.wrap ((X:Int)-1)=(wd (under n) k:Int):=by
 refine⟨2^(n-64*k) % 18446744073709551616,?_,?_⟩
 ·rw[shift_shl_any _ _ _ _ (by omega),show((n:Int)-(k:Int)*64).toNat=n-64*k from by omega]
  congr 2
  rw[IntKind.wrap_u64,Int.one_mul]
  by_cases hb:n-64*k<=64
  ·rw[show min (n-64*k) IntKind.u64.bits=n-64*k from by simp[IntKind.bits];omega];have e:((2:Int)^(n-64*k))=((2^(n-64*k):Nat):Int):=by simp
   rw[e];rfl
  ·rw[show min (n-64*k) IntKind.u64.bits=64 from by simp[IntKind.bits];omega];have hd:2^(n-64*k) % 2^64=0:=Nat.mod_eq_zero_of_dvd (Nat.pow_dvd_pow 2 (by omega));have hd2:2^(n-64*k) % 18446744073709551616=0:=hd;rw[hd2];rfl
 ·rw[←zMD n k h];generalize 2^(n-64*k)=p;rw[IntKind.wrap_u64];omega
theorem TD{p d n}{B}(w)(h:az p d n B w)(k)(hk:k<sz n):
  Calls Tryz.prog 189 #[.pointer (some ⟨p,0,none⟩),.int .i64 k] w fun e w'=>e=.returned (.int .u64 (wd (under n) k))/\w=w':=by
 have h0:=h.room;have hn:=h.upto.1;have hlt:64*k<n:=by unfold sz at hk;omega
 have hs:sz n<=64:=uO h.upto.1;clear h;obtain⟨X,e1,e2⟩:=zHj n k hlt;go_enter Tryz.func189,Tryz.ntmps189;go_wp2;go_ret;exact⟨rfl,rfl⟩
theorem YT{u}(w):
  Calls Tryz.prog 164 #[.pointer none,u] w fun e w'=>e=.returned (.bool false)/\w=w':=by
 have hS:=zW w (.nil w);rw[show sz 0=0 from rfl]at hS;have HS:=af hS;clear hS;go_enter Tryz.func164,Tryz.ntmps164;go_wp2_with (go_at_call 187;refine HS.out.mono ?_;rintro e w' ⟨rfl,rfl⟩);go_loop [5,10] (fun c i=>c=.bool false/\i=.int .i64 0) (fun _ _=>0)
 case atStart=>exact⟨rfl,rfl⟩
 case round=>
  obtain⟨rfl,rfl⟩:=hrel;go_wp2;go_ret;exact⟨rfl,rfl⟩
def Zb(p d n:Nat)(B:Nat->Bool)(u:Value)(m:Nat)(C:Nat->Bool)(w:World)(k:Nat)(wr:World):Prop:=
 az p d n (jF B n C k) wr/\cO d u m C wr/\aO d w wr
theorem UQ(B C)(n k):bits BinOp.andNot IntKind.u64 (bits BinOp.and IntKind.u64 (wd C k:Int) (wd (under n) k:Int)) (wd B k:Int)=(wd (more B n C) k:Int):=by
 have h1:=lA B k;rw[bits_and_u64_nat _ _ (lA _ _) (lA _ _)];have h2:wd C k&&& wd (under n) k<18446744073709551616:=Nat.lt_of_le_of_lt Nat.and_le_left (lA C k);rw[u64_andNot _ _ (by omega) (by omega) (by omega) (by omega),Int.toNat_natCast,Int.toNat_natCast];exact congrArg _ (zN2 B C n k)
theorem bits_join(B C)(n k):bits BinOp.or IntKind.u64 (wd B k:Int) (wd (more B n C) k:Int)=(wd (jF B n C (k+1)) k:Int):=by
 rw[bits_or_u64_nat _ _ (lA _ _) (lA _ _),zRF]
theorem ET{p d n m}{B C}{u}(w)(h:az p d n B w)(g:cO d u m C w):
  Calls Tryz.prog 164 #[.pointer (some ⟨p,0,none⟩),u] w (Wrote (gains B n C) p d n (eP B n C) w):=by
 have HS:=af (zW w (.at_ h));have hs:sz n<=64:=uO h.upto.1;have ZN:=af h.upto;have H0:Hid (Zb p d n B u m C w 0 w):=⟨by rw[zRI];exact h,g,.refl _ _⟩;clear h g;go_enter Tryz.func164,Tryz.ntmps164;go_wp2_with (go_at_call 187;refine HS.out.mono ?_;rintro e w' ⟨rfl,rfl⟩);go_loopw [5,10] (fun c i wr=>∃k:Nat,k<=sz n/\i=.int .i64 k/\c=.bool (gk B n C k)/\Zb p d n B u m C w k wr) (fun _ i _=>sz n-(intOf i).toNat)
 case atStart=>exact⟨0,Nat.zero_le _,rfl,by rw[zTP],H0.out⟩
 case round=>
  obtain⟨k,hk,rfl,rfl,hi⟩:=hrel;have HI:=af hi;clear hi
  by_cases hlt:k<sz n
  ·have HW:=af (fun q=>flip (Hu (wr.drewN q) (HI.out.2.1.set.drew q) k));have HA:=af (fun q=>flip (TD (wr.drewN q) (HI.out.1.drewN q) k hlt));have c0:=HI.out.1.words;have c1:=HI.out.1.holds k hlt;have c2:=HI.out.1.free k hlt;rw[zRH]at c1;have hE:=UQ B C n k
   by_cases hz:wd (more B n C) k=0
   ·have H2:=af (zRE hz);have H3:=af (zTO hz);rw[hz]at hE;clear hz;go_wp2_with fail;go_quiet (first|(go_at_call 188;exact Calls.quiet_of_same (HW.out _))|(go_at_call 189;exact Calls.quiet_of_same (HA.out _)));go_wp2;go_roundw
    case rel=>exact⟨k+1,by omega,by go_num,by rw[H3.out],⟨by rw[H2.out];exact HI.out.1.drewN _,HI.out.2.1.keeps ((aO.refl _ _).drewN _),HI.out.2.2.drewN _⟩⟩
    case measure=>simp[intOf];omega
   ·have H3:=af (zTN hz);have hne:((wd (more B n C) k:Int) != 0)=true:=by rw[bne_iff_ne];omega
    have hJ:=bits_join B C n k;clear hz;generalize wd (more B n C) k=z at*;go_wp2_with fail;go_quiet (first|(go_at_call 188;exact Calls.quiet_of_same (HW.out _))|(go_at_call 189;exact Calls.quiet_of_same (HA.out _)));have Fu:=af ((HI.out.1.drewN nq).store hlt (B':=jF B n C (k+1)) (zRG ZN.out C (k+1)) (fun i hi=>zOL B C n k i hi));have Ap:=af ((aO.refl d wr).drewN nq |>.setCell k (.int .u64 (wd (jF B n C (k+1)) k)));go_wp2;go_roundw
    case rel=>exact⟨k+1,by omega,by go_num,by rw[H3.out],⟨Fu.out,HI.out.2.1.keeps Ap.out,HI.out.2.2.trans Ap.out⟩⟩
    case measure=>simp[intOf];omega
  ·have he:k=sz n:=by omega
   subst he;have H2:=af (zT2 B C n);have H3:=af (zVE B C n);go_wp2;go_ret;exact⟨by rw[←H3.out];rfl,by rw[←H2.out];exact HI.out.1,HI.out.2.2⟩
