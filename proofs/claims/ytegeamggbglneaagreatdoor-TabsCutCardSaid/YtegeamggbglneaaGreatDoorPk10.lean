/- Proof. -/
import Derived.Laws.BitsAllLaws
import Derived.Lib.TrailingZeros
set_option linter.unusedVariables false
namespace Go.Proofs.YtegeamggbglneaaGreatDoor
namespace Bt
def nb(f:Nat->Bool):Nat->Nat
 |0=>0
 |n+1=>nb f n|||(if f n then 2^n else 0)
theorem Zk(f):∀n,nb f n<2^n
 |0=>by simp[nb]
 |n+1=>by
  have h:=Zk f n;have h2:2^(n+1)=2^n+2^n:=by rw[Nat.pow_succ];omega
  refine Nat.or_lt_two_pow (by omega) ?_;split<;>omega
theorem YL(f)(j):∀n,(nb f n).testBit j=(decide (j<n)&&f j)
 |0=>by simp[nb]
 |n+1=>by
  rw[nb,Nat.testBit_or,YL f j n]
  by_cases h:f n=true
  ·simp only[h,if_true,Nat.testBit_two_pow]
   by_cases hj:n=j
   ·subst hj;simp[h]
   ·have:decide (j<n+1)=decide (j<n):=by simp;omega
    simp[hj,this]
  ·simp only[h]
   by_cases hj:n=j
   ·subst hj;simp[h]
   ·have:decide (j<n+1)=decide (j<n):=by simp;omega
    simp[this]
def wd(B:Nat->Bool)(k:Nat):Nat:=nb (fun j=>B (64*k+j)) 64
theorem lA(B)(k):wd B k<18446744073709551616:=Zk _ 64
theorem oH(B)(k j):(wd B k).testBit j=(decide (j<64)&&B (64*k+j)):=YL _ j 64
theorem zQN{v j}(hv:v<18446744073709551616)(hj:¬j<64):v.testBit j=false:=
 Nat.testBit_lt_two_pow (Nat.lt_of_lt_of_le hv (Nat.pow_le_pow_right (n:=2) (by decide) (show 64<=j by omega)))
theorem uM{v}{B}{k}(hv:v<18446744073709551616)(h:∀j,j<64->v.testBit j=B (64*k+j)):v=wd B k:=by
 apply Nat.eq_of_testBit_eq
 intro j;rw[oH]
 by_cases hj:j<64
 ·simp[hj,h j hj]
 ·simp[hj,zQN hv hj]
theorem Eg{B C}{k}(h:∀j,j<64->B (64*k+j)=C (64*k+j)):wd B k=wd C k:=
 uM (lA _ _) fun j hj=>by rw[oH];simp[hj,h j hj]
theorem Xr{v j}(hv:v<18446744073709551616):(18446744073709551615-v).testBit j=(decide (j<64)&& !v.testBit j):=by
 have:=Nat.testBit_two_pow_sub_succ (x:=v) (n:=64) hv j;rw[←this]
 congr 1
 omega
theorem Y0(B C)(k):wd B k&&& wd C k=wd (fun i=>B i&&C i) k:=
 uM (Nat.lt_of_le_of_lt Nat.and_le_left (lA B k)) fun j hj=>by rw[Nat.testBit_and,oH,oH];simp[hj]
theorem Zn(B C)(k):wd B k|||wd C k=wd (fun i=>B i||C i) k:=
 uM (Nat.or_lt_two_pow (n:=64) (lA B k) (lA C k)) fun j hj=>by rw[Nat.testBit_or,oH,oH];simp[hj]
theorem zPT(B C)(k):wd B k&&& (18446744073709551615-wd C k)=wd (fun i=>B i&& !C i) k:=
 uM (Nat.lt_of_le_of_lt Nat.and_le_left (lA B k)) fun j hj=>by rw[Nat.testBit_and,Xr (lA C k),oH,oH];simp[hj]
theorem wK{B}{k}:wd B k=0↔∀j,j<64->B (64*k+j)=false:=by
 constructor
 ·intro h j hj;have:=oH B k j;rw[h]at this
  simpa[hj]using this.symm
 ·intro h;exact(uM (B:=B) (k:=k) (v:=0) (by omega) fun j hj=>by simp[h j hj]).symm
theorem Zm{B}{k}(h:wd B k≠0):∃j,j<64/\B (64*k+j)=true:=by
 refine Classical.byContradiction fun hn=>h (wK.2 fun j hj=>?_)
 cases hb:B (64*k+j)with
 |false=>rfl
 |true=>exact absurd ⟨j,hj,hb⟩ hn
def mG(i:Nat):Nat:=2^(i % 64)
theorem yB(i):mG i<18446744073709551616:=
 Nat.pow_lt_pow_of_lt (a:=2) (n:=i % 64) (m:=64) (by decide) (Nat.mod_lt _ (by decide))
theorem UO(i):0<mG i:=Nat.two_pow_pos _
theorem VY(i):mG i=wd (fun j=>decide (j=i)) (i / 64):=
 uM (yB i) fun j hj=>by
  rw[mG,Nat.testBit_two_pow]
  congr 1
  apply propext
  omega
def put(B:Nat->Bool)(i:Nat):Nat->Bool:=fun j=>B j||decide (j=i)
def eP(B:Nat->Bool)(n:Nat)(C:Nat->Bool):Nat->Bool:=fun j=>B j||(C j&&decide (j<n))
theorem zRR(B)(i):wd B (i / 64)|||mG i=wd (put B i) (i / 64):=by
 rw[VY,Zn];rfl
theorem zOY(B)(i k)(h:k≠i / 64):wd (put B i) k=wd B k:=
 Eg fun j hj=>by
  have:¬(64*k+j=i):=by omega
  simp[put,this]
theorem zQH(B)(i):(wd B (i / 64)&&& mG i≠0)↔B i=true:=by
 rw[VY,Y0];constructor
 ·intro h;obtain⟨j,hj,hb⟩:=Zm h;simp only[Bool.and_eq_true,decide_eq_true_eq]at hb;rw[←hb.2];exact hb.1
 ·intro h hz;have:=wK.1 hz (i % 64) (Nat.mod_lt _ (by decide));have e:64*(i / 64)+i % 64=i:=by omega
  rw[e]at this;simp[h]at this
def under(n:Nat):Nat->Bool:=fun j=>decide (j<n)
theorem zMD(n k)(h:64*k<n):(2^(n-64*k) % 18446744073709551616+18446744073709551615) % 18446744073709551616=wd (under n) k:=by
 by_cases hb:64<=n-64*k
 ·have hd:2^(n-64*k) % 18446744073709551616=0:=by
   have:2^64∣2^(n-64*k):=Nat.pow_dvd_pow 2 hb;exact Nat.mod_eq_zero_of_dvd this
  rw[hd]
  exact uM (by omega) fun j hj=>by
   have:=Nat.testBit_two_pow_sub_one 64 j;rw[show(0+18446744073709551615) % 18446744073709551616=2^64-1 from rfl,this];have h3:64*k+j<n:=by omega
   simp[under,hj,h3]
 ·have hlt:2^(n-64*k)<18446744073709551616:=Nat.pow_lt_pow_of_lt (a:=2) (m:=64) (by decide) (by omega);have hp:0<2^(n-64*k):=Nat.two_pow_pos _
  have e:(2^(n-64*k) % 18446744073709551616+18446744073709551615) % 18446744073709551616=2^(n-64*k)-1:=by
   generalize 2^(n-64*k)=p at*;omega
  rw[e]
  refine uM (by generalize 2^(n-64*k)=p at*;omega) fun j hj=>by
   rw[Nat.testBit_two_pow_sub_one,under];clear e hlt hp
   congr 1
   apply propext
   omega
theorem zN2(B C)(n k):(wd C k&&& wd (under n) k)&&& (18446744073709551615-wd B k)=wd (fun i=>(C i&&under n i)&& !B i) k:=by
 rw[Y0,zPT]
def from_(B:Nat->Bool)(m:Nat):Nat->Bool:=fun i=>B i&&decide (m<=i)
theorem zIz(B)(m):wd B (m / 64)&&& (18446744073709551615-(mG m-1))=wd (from_ B m) (m / 64):=by
 have hb:=yB m;have hp:=UO m;refine uM (Nat.lt_of_le_of_lt Nat.and_le_left (lA B _)) fun j hj=>?_
 rw[Nat.testBit_and,Xr (by omega),oH,mG,Nat.testBit_two_pow_sub_one,from_]
 have e:(decide (j<m % 64))= !decide (m<=64*(m / 64)+j):=by
  rw[Bool.eq_iff_iff];simp;omega
 simp[hj,e]
theorem zI0(B)(m k)(h:m / 64<k):wd (from_ B m) k=wd B k:=
 Eg fun j _=>by
  have:m<=64*k+j:=by omega
  simp[from_,this]
theorem zS6{v}(h0:v≠0)(hv:v<18446744073709551616):Go.Lib.ctz 64 v<64/\v.testBit (Go.Lib.ctz 64 v)=true/\∀j,j<Go.Lib.ctz 64 v->v.testBit j=false:=by
 obtain⟨m,hm,hk⟩:=Go.Lib.ctzFrom_spec 64 v (by omega) hv;have e:Go.Lib.ctz 64 v=Go.Lib.ctzFrom 64 v:=by simp[Go.Lib.ctz,h0]
 rw[e];generalize Go.Lib.ctzFrom 64 v=c at*;subst hm;refine⟨hk,?_,fun j hj=>?_⟩
 ·rw[Nat.mul_comm,Nat.testBit_mul_two_pow];simp[Nat.testBit_zero]
 ·rw[Nat.mul_comm,Nat.testBit_mul_two_pow];have:¬c<=j:=by omega
  simp[this]
def els(B:Nat->Bool):List Nat:=(List.range 4096).filter B
def bz(B:Nat->Bool)(n:Nat):Prop:=n<=4096/\∀i,n<=i->B i=false
theorem EJ{B}{n}(h:bz B n):els B=(List.range n).filter B:=by
 obtain⟨d,hd⟩:∃d,4096=n+d:=⟨4096-n,by have:=h.1;omega⟩;rw[els,hd,List.range_add,List.filter_append]
 have:((List.range d).map (n+ ·)).filter B=[]:=by
  rw[List.filter_eq_nil_iff];intro x hx;obtain⟨y,_,rfl⟩:=List.mem_map.1 hx;simp[h.2 (n+y) (by omega)]
 rw[this,List.append_nil]
theorem zTA(B):(els B).length<=4096:=by
 have:=List.length_filter_le B (List.range 4096)
 simpa[els]using this
theorem bz.put{B}{n i}(h:bz B n)(hi:i<n):bz (put B i) n:=
 ⟨h.1,fun j hj=>by
  have:¬j=i:=by omega
  simp[Bt.put,h.2 j hj,this]⟩
theorem bz.none:bz (fun _=>false) 0:=⟨by omega,fun _ _=>rfl⟩
theorem bz.empty{n}(h:n<=4096):bz (fun _=>false) n:=⟨h,fun _ _=>rfl⟩
theorem zRQ{B}{i}(h:B i=true):put B i=B:=by
 funext j
 by_cases e:j=i
 ·subst e;simp[put,h]
 ·simp[put,e]
def has(B:Nat->Bool)(i:Int):Bool:=decide (0<=i)&&B i.toNat
def cE(B:Nat->Bool)(n:Nat)(i:Int):Nat->Bool:=if 0<=i/\i<n then put B i.toNat else B
def bZ(B:Nat->Bool)(n:Nat)(i:Int):Bool:=decide (0<=i)&&decide (i<n)&& !B i.toNat
def gains(B:Nat->Bool)(n:Nat)(C:Nat->Bool):Bool:=(List.range n).any fun i=>C i&& !B i
theorem zNH{B C}{n i}(hi:i<n)(hb:B i=false)(hc:C i=true):gains B n C=true:=by
 rw[gains,List.any_eq_true];exact⟨i,List.mem_range.2 hi,by simp[hb,hc]⟩
def nM(B:Nat->Bool)(i:Int)(j:Nat):Bool:=decide (i<=(j:Int))&&B j
def EO:Option Nat->Int
 |some j=>(j:Int)
 |none=> -1
def next(B:Nat->Bool)(i:Int):Int:=EO ((List.range 4096).find? (nM B i))
theorem zQ2{B}{n m:Nat}(hB:bz B n)(i:Int)(hm:i<=m)(hb:B m=true)(hl:∀j:Nat,i<=j->j<m->B j=false):next B i=m:=by
 have hlt:m<n:=by
  refine Classical.byContradiction fun h=>?_
  rw[hB.2 m (by omega)]at hb;cases hb
 have h:(List.range 4096).find? (nM B i)=some m:=by
  rw[List.find?_range_eq_some];refine⟨by simp[nM,hm,hb],by simp;have:=hB.1;omega,fun j hj=>?_⟩
  by_cases hij:i<=(j:Int)
  ·simp[nM,hl j hij hj]
  ·simp[nM,hij]
 simp only[next,h,EO]
theorem zTp{B}(i:Int)(hl:∀j:Nat,i<=j->B j=false):next B i= -1:=by
 have h:(List.range 4096).find? (nM B i)=none:=by
  rw[List.find?_eq_none];intro j _
  by_cases hij:i<=(j:Int)
  ·simp[nM,hl j hij]
  ·simp[nM,hij]
 simp only[next,h,EO]
theorem zTr{B}(i):(next B i= -1/\∀j:Nat,j<4096->i<=j->B j=false)\/∃m:Nat,next B i=m/\m<4096/\i<=m/\B m=true/\∀j:Nat,i<=j->j<m->B j=false:=by
 cases h:(List.range 4096).find? (nM B i)with
 |none=>
  refine .inl ⟨by simp only[next,h,EO],fun j hj hij=>?_⟩;have:=List.find?_eq_none.1 h j (List.mem_range.2 hj)
  simpa[nM,hij]using this
 |some m=>
  have hs:=List.find?_range_eq_some.1 h;obtain⟨h1,h2,h3⟩:=hs;simp only[nM,Bool.and_eq_true,decide_eq_true_eq]at h1;refine .inr ⟨m,by simp only[next,h,EO],by simpa using h2,h1.1,h1.2,fun j hij hj=>?_⟩;have:=h3 j hj
  simpa[nM,hij]using this
theorem zQ0(B)(i):next B (max i 0)=next B i:=by
 have:nM B (max i 0)=nM B i:=by
  funext j
  unfold nM
  congr 1
  rw[Bool.eq_iff_iff];simp;omega
 simp only[next,this]
theorem zGC(K):List.range (K+1)=0::(List.range K).map Nat.succ:=List.range_succ_eq_map
def vs(w:Nat):Nat->Nat->Nat
 |0,_=>0
 |K+1,x=>x % 2^w+vs w K (x / 2^w)
theorem Om:∀(K x:Nat),vs 1 K x=((List.range K).filter x.testBit).length
 |0,x=>by simp[vs]
 |K+1,x=>by
  rw[vs,Om K,zGC,List.filter_cons,List.filter_map,Nat.pow_one];have e:(x.testBit ∘ Nat.succ)=(x / 2).testBit:=by funext j;simp[Nat.testBit_succ]
  rw[e,Nat.testBit_zero];have h2:x % 2=0\/x % 2=1:=by omega
  rcases h2 with h|h<;>simp[h,Nat.add_comm]
theorem zUe(B)(k):vs 1 64 (wd B k)=((List.range 64).filter fun j=>B (64*k+j)).length:=by
 rw[Om]
 congr 1
 refine List.filter_congr fun j hj=>?_
 rw[oH];simp[List.mem_range.1 hj]
theorem zLQ(B)(k):((List.range (64*(k+1))).filter B).length=((List.range (64*k)).filter B).length+vs 1 64 (wd B k):=by
 rw[zUe,show 64*(k+1)=64*k+64 from by omega,List.range_add,List.filter_append,List.length_append,List.filter_map,List.length_map]
 rfl
theorem UG(B)(k):((List.range k).filter B).length<=k:=by
 have:=List.length_filter_le B (List.range k)
 simpa using this
theorem zMz{B}{n k}(hB:bz B n)(hk:n<=64*k):((List.range (64*k)).filter B).length=(els B).length:=by
 have h:((List.range (64*k)).filter B)=(List.range n).filter B:=by
  obtain⟨d,hd⟩:∃d,64*k=n+d:=⟨64*k-n,by omega⟩;rw[hd,List.range_add,List.filter_append]
  have:((List.range d).map (n+ ·)).filter B=[]:=by
   rw[List.filter_eq_nil_iff];intro x hx;obtain⟨y,_,rfl⟩:=List.mem_map.1 hx;simp[hB.2 (n+y) (by omega)]
  rw[this,List.append_nil]
 rw[h,←EJ hB]
theorem zWs(K x):vs 1 K x<=K:=by
 rw[Om];have:=List.length_filter_le x.testBit (List.range K)
 simpa using this
def uj(w:Nat):Nat->Nat
 |0=>0
 |K+1=>uj w K*2^(w+w)+(2^w-1)
theorem and_split(W q r m s)(hr:r<2^W)(hs:s<2^W):(q*2^W+r)&&& (m*2^W+s)=(q&&& m)*2^W+(r&&& s):=by
 have hrs:r&&& s<2^W:=Nat.and_lt_two_pow _ hs
 apply Nat.eq_of_testBit_eq
 intro j;rw[Nat.testBit_and,Nat.mul_comm q,Nat.mul_comm m,Nat.mul_comm (q&&& m),Nat.testBit_two_pow_mul_add _ hr,Nat.testBit_two_pow_mul_add _ hs,Nat.testBit_two_pow_mul_add _ hrs];split<;>simp
theorem Oc(w K x):x&&& uj w (K+1)=(x / 2^(w+w)&&& uj w K)*2^(w+w)+x % 2^w:=by
 have hp:2^w*2^w=2^(w+w):=by rw[Nat.pow_add]
 have h1:0<2^w:=Nat.two_pow_pos w;have h2:2^w<=2^w*2^w:=Nat.le_mul_of_pos_right _ h1;have e:x=x / 2^(w+w)*2^(w+w)+x % 2^(w+w):=by rw[Nat.mul_comm];exact(Nat.div_add_mod x _).symm
 conv=>lhs;rw[e]
 rw[uj,and_split _ _ _ _ _ (Nat.mod_lt _ (Nat.two_pow_pos _)) (by omega),Nat.and_two_pow_sub_one_eq_mod,←hp,Nat.mod_mul_right_mod]
def hv(w K x:Nat):Nat:=(x / 2^w&&& uj w K)+(x&&& uj w K)
theorem NV(w K x):hv w (K+1) x=hv w K (x / 2^(w+w))*2^(w+w)+(x / 2^w % 2^w+x % 2^w):=by
 have e:x / 2^w / 2^(w+w)=x / 2^(w+w) / 2^w:=by rw[Nat.div_div_eq_div_mul,Nat.div_div_eq_div_mul,Nat.mul_comm]
 rw[hv,Oc,Oc,e,hv,Nat.add_mul];omega
theorem zVu(w K x):vs w (K+1+1) x=x % 2^w+(x / 2^w % 2^w+vs w K (x / 2^(w+w))):=by
 rw[vs,vs,Nat.div_div_eq_div_mul,←Nat.pow_add]
theorem Iy(w)(hw:0<w):∀(K x:Nat),vs (w+w) K (hv w K x)=vs w (K+K) x
 |0,x=>by simp[vs]
 |K+1,x=>by
  have hp:2^w*2^w=2^(w+w):=by rw[Nat.pow_add]
  have h1:2<=2^w:=by
   have:=Nat.pow_le_pow_right (n:=2) (by decide) (show 1<=w from hw)
   simpa using this
  have h2:2*2^w<=2^w*2^w:=Nat.mul_le_mul_right _ h1;have m1:=Nat.mod_lt (x / 2^w) (show 2^w>0 by omega);have m2:=Nat.mod_lt x (show 2^w>0 by omega);have hlt:x / 2^w % 2^w+x % 2^w<2^(w+w):=by omega
  rw[NV,vs,show K+1+(K+1)=K+K+1+1 from by omega,zVu,Nat.mul_comm,Nat.mul_add_mod,Nat.mod_eq_of_lt hlt,Nat.mul_add_div (by omega),Nat.div_eq_of_lt hlt,Nat.add_zero,Iy w hw K];omega
def d8(a b c d e f g h:Nat):Nat:=a+256*(b+256*(c+256*(d+256*(e+256*(f+256*(g+256*h))))))
def o1(x:Nat):Nat:=(x / 2&&& 6148914691236517205)+(x&&& 6148914691236517205)
def o2(x:Nat):Nat:=(x / 4&&& 3689348814741910323)+(x&&& 3689348814741910323)
def o3(x:Nat):Nat:=(x / 16+x)&&& 1085102592571150095
def o4(s x:Nat):Nat:=x+x / s
def kL(w m:Nat):Nat->Nat->Prop
 |0,x=>x=0
 |K+1,x=>x % 2^w<=m/\kL w m K (x / 2^w)
theorem VL:∀(K x:Nat),x<2^K->kL 1 1 K x
 |0,x,h=>by simp at h;exact h
 |K+1,x,h=>by
  refine⟨by simp;omega,VL K _ ?_⟩;rw[Nat.pow_succ]at h;simp;omega
theorem zP1{w m}:∀{K x:Nat},kL w m K x->x % 2^w<=m
 |0,x,h=>by have:x=0:=h;subst this;simp
 |_+1,_,h=>h.1
theorem Hy(w m)(hw:0<w):∀(K x:Nat),kL w m (K+K) x->kL (w+w) (m+m) K (hv w K x)
 |0,x,h=>by simp[hv,uj,kL]
 |K+1,x,h=>by
  rw[show K+1+(K+1)=K+K+1+1 from by omega]at h;obtain⟨h1,h2,h3⟩:=h;rw[Nat.div_div_eq_div_mul,←Nat.pow_add]at h3;have hp:2^w*2^w=2^(w+w):=by rw[Nat.pow_add]
  have g1:2<=2^w:=by
   have:=Nat.pow_le_pow_right (n:=2) (by decide) (show 1<=w from hw)
   simpa using this
  have g2:2*2^w<=2^w*2^w:=Nat.mul_le_mul_right _ g1;have m1:=Nat.mod_lt (x / 2^w) (show 2^w>0 by omega);have m2:=Nat.mod_lt x (show 2^w>0 by omega);have hlt:x / 2^w % 2^w+x % 2^w<2^(w+w):=by omega
  rw[NV];refine⟨?_,?_⟩
  ·rw[Nat.mul_comm,Nat.mul_add_mod,Nat.mod_eq_of_lt hlt];omega
  ·rw[Nat.mul_comm,Nat.mul_add_div (by omega),Nat.div_eq_of_lt hlt,Nat.add_zero];exact Hy w m hw K _ h3
theorem Yl:∀(K x:Nat),kL 4 4 (K+K) x->(x / 16+x)&&& uj 4 K=hv 4 K x
 |0,x,_=>by simp[uj,hv]
 |K+1,x,h=>by
  rw[show K+1+(K+1)=K+K+1+1 from by omega]at h;obtain⟨h1,h2,h3⟩:=h;have e3:x / 2^4 / 2^4=x / 256:=by rw[Nat.div_div_eq_div_mul]
  rw[e3]at h3;have ih:=Yl K _ h3;have h4:=zP1 h3;rw[NV,Oc];simp only[Nat.reducePow,Nat.reduceAdd]at*;have q:(x / 16+x) / 256=x / 256 / 16+x / 256:=by omega
  have r:(x / 16+x) % 16=x / 16 % 16+x % 16:=by omega
  rw[q,r,ih]
theorem eight(x)(h:kL 8 8 8 x):∃a b c d e f g k,x=d8 a b c d e f g k/\a<=8/\b<=8/\c<=8/\d<=8/\e<=8/\f<=8/\g<=8/\k<=8/\vs 8 8 x=a+b+c+d+e+f+g+k:=by
 obtain⟨h0,h1,h2,h3,h4,h5,h6,h7,h8⟩:=h;refine⟨_,_,_,_,_,_,_,_,?_,h0,h1,h2,h3,h4,h5,h6,h7,?_⟩
 ·simp only[kL,Nat.reducePow]at*;unfold d8;omega
 ·simp only[vs,Nat.add_zero,Nat.add_assoc]
theorem zUz(a b c d e f g h)(ha:a<256):d8 a b c d e f g h / 256=d8 b c d e f g h 0:=by
 unfold d8;omega
theorem zS8(a b c d e f g h)(ha:a<256)(hb:b<256):d8 a b c d e f g h / 65536=d8 c d e f g h 0 0:=by
 unfold d8;omega
theorem zS9(a b c d e f g h)(ha:a<256)(hb:b<256)(hc:c<256)(hd:d<256):d8 a b c d e f g h / 4294967296=d8 e f g h 0 0 0 0:=by
 unfold d8;omega
theorem Oo(a b c d e f g h a' b' c' d' e' f' g' h'):d8 a b c d e f g h+d8 a' b' c' d' e' f' g' h'=d8 (a+a') (b+b') (c+c') (d+d') (e+e') (f+f') (g+g') (h+h'):=by
 unfold d8;omega
theorem zU0(a b c d e f g h)(ha:a<128):d8 a b c d e f g h % 128=a:=by
 unfold d8;omega
theorem Iq(a b c d e f g h)(ha:a<256)(hb:b<256)(hc:c<256)(hd:d<256)(he:e<256)(hf:f<256)(hg:g<256)(hh:h<128):d8 a b c d e f g h<9223372036854775808:=by
 unfold d8;omega
theorem ones(x)(hx:x<18446744073709551616):
  o4 4294967296 (o4 65536 (o4 256 (o3 (o2 (o1 x))))) % 128=vs 1 64 x/\o4 4294967296 (o4 65536 (o4 256 (o3 (o2 (o1 x)))))<9223372036854775808/\
  o1 x<18446744073709551616/\o2 (o1 x)<18446744073709551616/\o2 (o1 x) / 16+o2 (o1 x)<18446744073709551616/\o3 (o2 (o1 x))<9223372036854775808/\
  o4 256 (o3 (o2 (o1 x)))<9223372036854775808/\o4 65536 (o4 256 (o3 (o2 (o1 x))))<9223372036854775808:=by
 have a0:=VL 64 x hx;have a1:=Hy 1 1 (by decide) 32 x a0;have a2:=Hy 2 2 (by decide) 16 _ a1;have a3:=Hy 4 4 (by decide) 8 _ a2;have e3:o3 (o2 (o1 x))=hv 4 8 (hv 2 16 (hv 1 32 x)):=Yl 8 _ a2;have v1:=Iy 1 (by decide) 32 x;have v2:=Iy 2 (by decide) 16 (hv 1 32 x);have v3:=Iy 4 (by decide) 8 (hv 2 16 (hv 1 32 x));have hb:∀y m,y&&& m<=m:=fun y m=>Nat.and_le_right
 have b1:o1 x<18446744073709551616:=by
  have:=hb (x / 2) 6148914691236517205;have:=hb x 6148914691236517205;unfold o1;omega
 have b2:o2 (o1 x)<=7378697629483820646:=by
  have:=hb (o1 x / 4) 3689348814741910323;have:=hb (o1 x) 3689348814741910323;unfold o2;omega
 obtain⟨a,b,c,d,e,f,g,k,hy,ha,hb',hc,hd,he,hf,hg,hk,hs⟩:=eight _ a3;rw[e3,hy]
 have s1:o4 256 (d8 a b c d e f g k)=d8 (a+b) (b+c) (c+d) (d+e) (e+f) (f+g) (g+k) k:=by
  unfold o4;rw[zUz _ _ _ _ _ _ _ _ (by omega),Oo,Nat.add_zero]
 rw[s1]
 have s2:o4 65536 (d8 (a+b) (b+c) (c+d) (d+e) (e+f) (f+g) (g+k) k)=d8 (a+b+(c+d)) (b+c+(d+e)) (c+d+(e+f)) (d+e+(f+g)) (e+f+(g+k)) (f+g+k) (g+k) k:=by
  unfold o4;rw[zS8 _ _ _ _ _ _ _ _ (by omega) (by omega),Oo,Nat.add_zero,Nat.add_zero]
 rw[s2]
 have s3:o4 4294967296 (d8 (a+b+(c+d)) (b+c+(d+e)) (c+d+(e+f)) (d+e+(f+g)) (e+f+(g+k)) (f+g+k) (g+k) k)=d8 (a+b+(c+d)+(e+f+(g+k))) (b+c+(d+e)+(f+g+k)) (c+d+(e+f)+(g+k)) (d+e+(f+g)+k) (e+f+(g+k)) (f+g+k) (g+k) k:=by
  unfold o4;rw[zS9 _ _ _ _ _ _ _ _ (by omega) (by omega) (by omega) (by omega),Oo,Nat.add_zero,Nat.add_zero,Nat.add_zero,Nat.add_zero]
 rw[s3];refine⟨?_,Iq _ _ _ _ _ _ _ _ (by omega) (by omega) (by omega) (by omega) (by omega) (by omega) (by omega) (by omega),b1,by omega,by omega,Iq _ _ _ _ _ _ _ _ (by omega) (by omega) (by omega) (by omega) (by omega) (by omega) (by omega) (by omega),Iq _ _ _ _ _ _ _ _ (by omega) (by omega) (by omega) (by omega) (by omega) (by omega) (by omega) (by omega),Iq _ _ _ _ _ _ _ _ (by omega) (by omega) (by omega) (by omega) (by omega) (by omega) (by omega) (by omega)⟩;rw[zU0 _ _ _ _ _ _ _ _ (by omega)];have:vs 8 8 (hv 4 8 (hv 2 16 (hv 1 32 x)))=vs 1 64 x:=v3.trans (v2.trans v1);omega
