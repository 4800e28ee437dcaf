/- A part of the proof. -/
import Derived.Test.YtegeamggbglneaaGreatDoorPk24
import Derived.Test.YtegeamggbglneaaGreatDoorPk26
set_option maxHeartbeats 4000000
set_option maxRecDepth 100000
set_option linter.unusedVariables false
namespace Go.Proofs.YtegeamggbglneaaGreatDoor
open Go.RowKit Go.Maps
namespace Gr
def fidx(p:Int×List Int->Bool)(R:List (Int×List Int)):Int:=match R.findIdx? p with|some i=>(i:Int)|Option.none=> -1
def zE1(p:Int×List Int->Bool)(R:List (Int×List Int))(k:Nat):Prop:=∀j (h:j<R.length),j<k->p R[j]=false
theorem zFV(p)(R):zE1 p R 0:=fun _ _ h=>absurd h (by omega)
theorem zFU{p}{R}{k}(h:zE1 p R k)(hk)(e:p R[k]=false):zE1 p R (k+1):=fun j hj hl=>by
 by_cases he:j=k
 ·subst he;exact e
 ·exact h j hj (by omega)
theorem zJ2{p}{R}{k}(h:zE1 p R k)(hk)(e:p R[k]=true):fidx p R=(k:Int):=by
 have:R.findIdx? p=some k:=by
  rw[List.findIdx?_eq_some_iff_getElem];exact⟨hk,e,fun j hj=>by simpa using h j (by omega) hj⟩
 simp[fidx,this]
theorem zJ1{p}{R}{k}(h:zE1 p R k)(hk:¬k<R.length):fidx p R= -1:=by
 have:R.findIdx? p=Option.none:=by
  rw[List.findIdx?_eq_none_iff];intro x hx;obtain⟨j,hj,rfl⟩:=List.mem_iff_getElem.1 hx;exact h j hj (by omega)
 simp[fidx,this]
theorem zJ0(p)(R):decide (0<=fidx p R)=R.any p:=by
 unfold fidx;cases h:R.findIdx? p with
 |none=>
  rw[List.findIdx?_eq_none_iff]at h;simp[List.any_eq_false.2 (fun x hx=>by simpa using h x hx)]
 |some i=>
  rw[List.findIdx?_eq_some_iff_getElem]at h;obtain⟨hi,e,_⟩:=h;rw[List.any_eq_true.2 ⟨_,List.getElem_mem hi,e⟩];simp
def bigB(r:Int×List Int):Bool:=decide (8<r.2.length)
theorem zSJ(r)(a)(c)(w)(hl:r.2.length<=17592186044416):
  Calls Tryz.prog 149 #[.agg #[.int .i64 r.1,.slice a r.2.length c]] w (Is (.bool (bigB r)) w):=by
 by_cases h:8<r.2.length
 ·have E:=zV7 (show bigB r=true by simp[bigB,h]);go_enter Tryz.func149,Tryz.ntmps149;go_wp2;go_ret;refine⟨zAD ?_,boxed _ _⟩;rw[E.out];simp;omega
 ·have E:=zV7 (show bigB r=false by simp[bigB,h]);go_enter Tryz.func149,Tryz.ntmps149;go_wp2;go_ret;refine⟨zAD ?_,boxed _ _⟩;rw[E.out];simp;omega
def zD6(q:Nat)(r:Int×List Int)(w:World):Prop:=∃a c,w.cell? ⟨q,0,none⟩=some (.int .i64 r.1)/\w.cell? ⟨q,1,none⟩=some (.slice a r.2.length c)/\Sep.Reads a (ivs r.2) w/\r.2.length<=17592186044416
theorem zD6.later{q}{r}{w w'}(h:zD6 q r w)(hb:Below w.heap.size w w'):zD6 q r w':=by
 obtain⟨a,c,h1,h2,h3,h4⟩:=h;exact⟨a,c,cell_later hb h1,cell_later hb h2,h3.below hb (Nat.le_refl _),h4⟩
theorem zTN(q)(r o)(a)(c)(w)(hq:zD6 q r w)(ha:Sep.Reads a (ivs o.2) w)(hl:o.2.length<=17592186044416):
  Calls Tryz.prog 154 #[.agg #[.int .i64 o.1,.slice a o.2.length c],.pointer (some ⟨q,0,none⟩)] w (Is (.bool (zBj o r)) w):=by
 obtain⟨a',c',h1,h2,h3,h4⟩:=hq;have H:=zV7 (fun w1 (k:Below w.heap.size w w1)=>zOW o r a a' c c' w1 (ha.below k (Nat.le_refl _)) (h3.below k (Nat.le_refl _)) hl h4);have hlt:q<w.heap.size:=World.block_lt_of_cell? w ⟨q,0,none⟩ h1;clear ha h3;go_enter Tryz.func154,Tryz.ntmps154;go_wp2_with (go_at_call 155;refine(H.out _ (boxed _ _)).mono ?_;rintro e w1 ⟨rfl,hb⟩;have HB:=zV7 (step (boxed _ _) hb);clear hb);go_ret;exact⟨rfl,HB.out⟩
theorem zNE(R)(a)(c)(w)(ha:zBZ a R w)(hl:R.length<=4398046511104):
  Calls Tryz.prog 101 #[.slice a R.length c,.func (.func 149) #[] #[]] w (Is (.int .i64 (fidx bigB R)) w):=by
 have HA:=zV7 (fun w1 (k:Below w.heap.size w w1)=>ha.below k (Nat.le_refl _));clear ha;go_enter Tryz.func101,Tryz.ntmps101;go_wp2;go_loopw [8] (fun i wr=>∃k:Nat,k<=R.length/\i=.int .i64 k/\zE1 bigB R k/\Below w.heap.size w wr) (fun i _=>R.length-(intOf i).toNat)
 case atStart=>exact⟨0,Nat.zero_le _,rfl,zFV _ _,.refl _ _⟩
 case round=>
  obtain⟨k,hk,rfl,hA,hW⟩:=hrel;have A:=zV7 hA;have HW:=zV7 hW;clear hA
  by_cases hlt:k<R.length
  ·obtain⟨b1,o1,ra,rc,rfl,h1,h2,h3,h4,h5⟩:=HA.out _ hW k hlt;have AE:=zV7 (fun he=>zFU A.out hlt he);have AF:=zV7 (fun he=>zJ2 A.out hlt he);generalize R[k]=x at h1 h2 h3 h4 h5 AE AF;have HC:=zV7 (fun w1 (k:Below wr.heap.size wr w1)=>zSJ x ra rc w1 (by omega));clear h3 h4 h5 hW;cases hs:bigB x with
   |false=>
    rw[hs]at HC;have A2:=zV7 (AE.out hs);clear hs;go_wp2_with (go_at_call 149;refine(HC.out _ (.refl _ _)).mono ?_;rintro e w1 ⟨rfl,hb⟩;have HB:=zV7 (step HW.out hb);clear hb);go_roundw
    case rel=>exact⟨k+1,by omega,by go_num,A2.out,HB.out⟩
    case measure=>simp[intOf];omega
   |true=>
    rw[hs]at HC;have F:=zV7 (AF.out hs);clear hs;go_wp2_with (go_at_call 149;refine(HC.out _ (.refl _ _)).mono ?_;rintro e w1 ⟨rfl,hb⟩;have HB:=zV7 (step HW.out hb);clear hb);go_ret;exact⟨zAx F.out,HB.out⟩
  ·have F:=zV7 (zJ1 A.out hlt);clear hW;go_wp2;go_ret;exact⟨zAx F.out,HW.out⟩
theorem zHo(R)(a)(c)(w)(ha:zBZ a R w)(hl:R.length<=4398046511104):
  Calls Tryz.prog 78 #[.slice a R.length c,.func (.func 149) #[] #[]] w (Is (.bool (R.any bigB)) w):=by
 have H:=zV7 (zNE R a c w ha hl);have E:=zV7 (zJ0 bigB R);clear ha;generalize fidx bigB R=n at H E;go_enter Tryz.func78,Tryz.ntmps78;go_wp2_with (go_at_call 101;refine H.out.mono ?_;rintro e w1 ⟨rfl,hb⟩;have HB:=zV7 hb;clear hb);go_ret;exact⟨zAD E.out.symm,HB.out⟩
theorem zNF(q)(r)(R)(a)(c)(w)(ha:zBZ a R w)(hl:R.length<=4398046511104)(hq:zD6 q r w):
  Calls Tryz.prog 101 #[.slice a R.length c,.func (.func 154) #[] #[.pointer (some ⟨q,0,none⟩)]] w (Is (.int .i64 (fidx (fun o=>zBj o r) R)) w):=by
 have HA:=zV7 (fun w1 (k:Below w.heap.size w w1)=>ha.below k (Nat.le_refl _));have HQ:=zV7 (fun w1 (k:Below w.heap.size w w1)=>hq.later k);clear hq;clear ha;go_enter Tryz.func101,Tryz.ntmps101;go_wp2;go_loopw [8] (fun i wr=>∃k:Nat,k<=R.length/\i=.int .i64 k/\zE1 (fun o=>zBj o r) R k/\Below w.heap.size w wr) (fun i _=>R.length-(intOf i).toNat)
 case atStart=>exact⟨0,Nat.zero_le _,rfl,zFV _ _,.refl _ _⟩
 case round=>
  obtain⟨k,hk,rfl,hA,hW⟩:=hrel;have A:=zV7 hA;have HW:=zV7 hW;clear hA
  by_cases hlt:k<R.length
  ·obtain⟨b1,o1,ra,rc,rfl,h1,h2,h3,h4,h5⟩:=HA.out _ hW k hlt;have AE:=zV7 (fun he=>zFU A.out hlt he);have AF:=zV7 (fun he=>zJ2 A.out hlt he);generalize R[k]=x at h1 h2 h3 h4 h5 AE AF;have HC:=zV7 (fun w1 (k:Below wr.heap.size wr w1)=>zTN q r x ra rc w1 (HQ.out w1 (step hW k)) (Sep.Reads.below h3 k (Nat.le_refl _)) (by omega));clear h3 h4 h5 hW;cases hs:zBj x r with
   |false=>
    rw[hs]at HC;have A2:=zV7 (AE.out hs);clear hs;go_wp2_with (go_at_call 154;refine(HC.out _ (.refl _ _)).mono ?_;rintro e w1 ⟨rfl,hb⟩;have HB:=zV7 (step HW.out hb);clear hb);go_roundw
    case rel=>exact⟨k+1,by omega,by go_num,A2.out,HB.out⟩
    case measure=>simp[intOf];omega
   |true=>
    rw[hs]at HC;have F:=zV7 (AF.out hs);clear hs;go_wp2_with (go_at_call 154;refine(HC.out _ (.refl _ _)).mono ?_;rintro e w1 ⟨rfl,hb⟩;have HB:=zV7 (step HW.out hb);clear hb);go_ret;exact⟨zAx F.out,HB.out⟩
  ·have F:=zV7 (zJ1 A.out hlt);clear hW;go_wp2;go_ret;exact⟨zAx F.out,HW.out⟩
theorem zHp(q)(r)(R)(a)(c)(w)(ha:zBZ a R w)(hl:R.length<=4398046511104)(hq:zD6 q r w):
  Calls Tryz.prog 78 #[.slice a R.length c,.func (.func 154) #[] #[.pointer (some ⟨q,0,none⟩)]] w (Is (.bool (R.any (fun o=>zBj o r))) w):=by
 have H:=zV7 (zNF q r R a c w ha hl hq);have E:=zV7 (zJ0 (fun o=>zBj o r) R);clear ha;generalize fidx (fun o=>zBj o r) R=n at H E;go_enter Tryz.func78,Tryz.ntmps78;go_wp2_with (go_at_call 101;refine H.out.mono ?_;rintro e w1 ⟨rfl,hb⟩;have HB:=zV7 hb;clear hb);go_ret;exact⟨zAD E.out.symm,HB.out⟩
theorem zQI(h)(G)(w)(k:GAt h G w):
  Calls Tryz.prog 124 #[gv h G] w (Is (.bool (zB1 G)) w):=by
 have t:=k.t2;have n:=k.n2;have r:=k.r2;have X:=zV7 (Bx.start h G w 47);have C:=zV7 (fun w1 (b:Below w.heap.size w w1)=>zHo G.rules h.a3 h.c3 w1 (k.went b).rules r);clear k;have E:=zV7 (show zB1 G=(decide (120<G.terms.length)||decide (120<G.nons.length)||decide (300<G.rules.length)||G.rules.any bigB)from rfl);unfold gv;generalize G.rules.any bigB=b at*
 by_cases h1:120<G.terms.length
 ·rw[decide_eq_true h1]at E;simp only[Bool.true_or]at E;go_enter Tryz.func124,Tryz.ntmps124;go_wp2;go_ret;exact⟨zAD E.out,X.out.below⟩
 ·rw[decide_eq_false h1,Bool.false_or]at E
  by_cases h2:120<G.nons.length
  ·rw[decide_eq_true h2]at E;simp only[Bool.true_or]at E;go_enter Tryz.func124,Tryz.ntmps124;go_wp2;go_ret;exact⟨zAD E.out,X.out.below⟩
  ·rw[decide_eq_false h2,Bool.false_or]at E
   by_cases h3:300<G.rules.length
   ·rw[decide_eq_true h3]at E;simp only[Bool.true_or]at E;go_enter Tryz.func124,Tryz.ntmps124;go_wp2;go_ret;exact⟨zAD E.out,X.out.below⟩
   ·rw[decide_eq_false h3,Bool.false_or]at E;go_enter Tryz.func124,Tryz.ntmps124;go_wp2_with (go_at_call 78;refine(C.out _ X.out.below).mono ?_;rintro e w1 ⟨rfl,hb⟩;have X:=zV7 (X.out.went hb);clear hb);go_ret;exact⟨zAD E.out,X.out.below⟩
theorem zLs{a}{R}{w}(h:zBZ a R w)(k):zBZ a (R.take k) w:=fun i hi=>by
 have hi':i<R.length:=by rw[List.length_take]at hi;omega
 have:=h i hi';rw[←List.getElem_take (h:=hi)]at this;exact this
theorem zQd{R:List (Int×List Int)}{k}(hk)(h:(R.take k).Nodup)(ha:(R.take k).any (fun o=>zBj o R[k])=false):(R.take (k+1)).Nodup:=by
 rw[List.take_succ_eq_append_getElem hk,List.nodup_append];refine⟨h,by simp,fun a hm b hb=>?_⟩;simp only[List.mem_singleton]at hb;subst hb;rintro rfl;have:=List.any_eq_false.1 ha _ hm;exact this (zFm.2 rfl)
theorem zQc{R:List (Int×List Int)}{k}(hk)(ha:(R.take k).any (fun o=>zBj o R[k])=true):¬R.Nodup:=by
 intro hN;obtain⟨o,hm,he⟩:=List.any_eq_true.1 ha;rw[zFm]at he;subst he;obtain⟨i,hi',e⟩:=List.mem_iff_getElem.1 hm;simp at hi';rw[List.getElem_take]at e;have:=(List.getElem_inj hN (i:=i) (j:=k) (h₀:=by omega) (h₁:=hk)).1 e;omega
theorem zF9(h:Sh)(G:Gram)(w:World)(k:GAt h G w):
  Calls Tryz.prog 128 #[gv h G] w (Is (.bool (!zB9 G)) w):=by
 have hc3:=k.r2;have hcap:=k.r1;obtain⟨a1,c1,a2,c2,a3,c3⟩:=h;have X:=zV7 (Bx.start ⟨a1,c1,a2,c2,a3,c3⟩ G w 47);have K:=zV7 (show∀w1,Below w.heap.size w w1->zBZ a3 G.rules w1 from fun w1 (b:Below w.heap.size w w1)=>(k.went b).rules);have hmf:∀(fn:Fn) (first cap:Array Value) (w:World),(Instr.makeFunc fn first cap).run Tryz.prog w=.ok (.func fn first cap) w:=fun _ _ _ _=>rfl
 clear k;dsimp only at hcap;unfold gv;dsimp only;go_enter Tryz.func128,Tryz.ntmps128;go_wp2;go_loopw [8] (fun i wr=>∃j:Nat,j<=G.rules.length/\i=.int .i64 j/\(G.rules.take j).Nodup/\Bx w ⟨a1,c1,a2,c2,a3,c3⟩ G wr) (fun i _=>G.rules.length-(intOf i).toNat)
 case atStart=>exact⟨0,Nat.zero_le _,rfl,by simp,X.out⟩
 case round=>
  clear X;obtain⟨j,hj,rfl,hA,hX⟩:=hrel;have A:=zV7 hA;have X:=zV7 hX;obtain⟨x0,x1,x2,x3⟩:=hX.box;clear hA hX
  by_cases hlt:j<G.rules.length
  ·obtain⟨b,o,ra,rc,e,h1,h2,h3,h4,h5⟩:=K.out _ X.out.below j hlt
   try dsimp only at e
   subst e;have hsz:w.heap.size<wr.heap.size:=X.out.size;have AE:=zV7 (fun he=>zQd hlt A.out he);have AF:=zV7 (fun he=>zQc hlt he);generalize G.rules[j]=r at h1 h2 h3 h4 h5 AE AF;have RB:=zV7 (show zD6 wr.heap.size r (wr.alloc (.cells #[.int .i64 r.1,.slice ra r.2.length rc] 55))from⟨ra,rc,zAC rfl rfl,zAC rfl rfl,Sep.Reads.below h3 (boxed _ _) (Nat.le_refl _),by omega⟩)
   have HC:=zV7 (show Calls Tryz.prog 78 #[.slice (some ⟨b,o,none⟩) j c3,.func (.func 154) #[] #[.pointer (some ⟨wr.heap.size,0,none⟩)]] (wr.alloc (.cells #[.int .i64 r.1,.slice ra r.2.length rc] 55)) (Is (.bool ((G.rules.take j).any (fun o=>zBj o r))) (wr.alloc (.cells #[.int .i64 r.1,.slice ra r.2.length rc] 55)))from by
    have:=zHp wr.heap.size r (G.rules.take j) (some ⟨b,o,none⟩) c3 _ (zLs (K.out _ (X.out.alloc _).below) j) (by rw[List.length_take];omega) RB.out;rw[List.length_take,Nat.min_eq_left hj]at this
    exact this)
   clear h3 h4 h5 RB;cases hs:(G.rules.take j).any (fun o=>zBj o r)with
   |false=>
    rw[hs]at HC;have A2:=zV7 (AE.out hs);clear hs;go_wp2_with (go_at_call 78;refine HC.out.mono ?_;rintro e w1 ⟨rfl,hb⟩;have X:=zV7 ((X.out.alloc _).went hb);clear hb);go_roundw
    case rel=>exact⟨j+1,by omega,by go_num,A2.out,X.out⟩
    case measure=>simp[intOf];omega
   |true=>
    rw[hs]at HC;have F:=zV7 (AF.out hs);clear hs;go_wp2_with (go_at_call 78;refine HC.out.mono ?_;rintro e w1 ⟨rfl,hb⟩;have X:=zV7 ((X.out.alloc _).went hb);clear hb);go_ret;exact⟨zAD (by unfold zB9;rw[decide_eq_false F.out];rfl),X.out.below⟩
  ·have F:=zV7 (show G.rules.Nodup by have h1:=A.out;rw[List.take_of_length_le (by omega)]at h1;exact h1);go_wp2;go_ret;exact⟨zAD (by unfold zB9;rw[decide_eq_true F.out];rfl),X.out.below⟩
theorem zOT{G}{k:Nat}(h:∀i,i<k->0<(ofL G ((G.terms.length:Int)+1+i)).length)(hk:¬k<G.nons.length):zCu G=true:=by
 unfold zCu;rw[List.all_eq_true];intro i hi;have:=h i (by have:=List.mem_range.1 hi;omega);rw[zC8]at this;cases e:ofN G ((G.terms.length:Int)+1+i)with
 |nil=>rw[e]at this;simp at this
 |cons x l=>rfl
theorem zLr{G}{k:Nat}(hk:k<G.nons.length)(h:¬0<(ofL G ((G.terms.length:Int)+1+k)).length):zCu G=false:=by
 unfold zCu;rw[List.all_eq_false];refine⟨k,List.mem_range.2 hk,?_⟩;rw[zC8]at h;cases e:ofN G ((G.terms.length:Int)+1+k)with
 |nil=>simp
 |cons x l=>rw[e]at h;simp at h
theorem zJg(h:Sh)(G:Gram)(w:World)(k:GAt h G w)(hr:G.rules.length<=65536):
  Calls Tryz.prog 129 #[gv h G] w (Is (.bool (!zCu G)) w):=by
 have t:=k.t2;have n:=k.n2;have T:=zV7 (fun w1 (b:Below w.heap.size w w1)=>zB8 h G w1 (k.went b));have N:=zV7 (fun s w1 (b:Below w.heap.size w w1)=>zEa h G s w1 (k.went b) hr);have X:=zV7 (Bx.start h G w 47);have htop:(top G:Int)=(G.terms.length:Int)+(G.nons.length:Int):=by unfold top;omega
 have HT:=zV7 htop;generalize top G=tp at T htop;clear k HT;unfold gv;go_enter Tryz.func129,Tryz.ntmps129;go_wp2;go_loopw [3] (fun i wr=>∃j:Nat,j<=G.nons.length/\i=.int .i64 ((G.terms.length:Int)+1+j)/\(∀i,i<j->0<(ofL G ((G.terms.length:Int)+1+i)).length)/\Bx w h G wr) (fun i _=>(G.terms.length+G.nons.length+1)-(intOf i).toNat)
 case atStart=>exact⟨0,Nat.zero_le _,by go_num,fun _ h=>absurd h (by omega),X.out⟩
 case round=>
  clear X;obtain⟨j,hj,rfl,hA,hX⟩:=hrel;have A:=zV7 hA;have X:=zV7 hX;obtain⟨x0,x1,x2,x3⟩:=hX.box;clear hA hX
  by_cases hlt:j<G.nons.length
  ·have NN:=zV7 (N.out ((G.terms.length:Int)+1+j));have F3:=zV7 (zLr (G:=G) (k:=j) hlt)
   have F4:=zV7 (fun(h0:0<(ofL G ((G.terms.length:Int)+1+j)).length) i (hi:i<j+1)=>show 0<(ofL G ((G.terms.length:Int)+1+i)).length by
    by_cases e:i=j
    ·subst e;exact h0
    ·exact A.out i (by omega))
   generalize hL:ofL G ((G.terms.length:Int)+1+j)=L at NN F3 F4;clear hL;rcases L with _|⟨x,l⟩
   ·have F:=zV7 (F3.out (by simp));clear F3 F4
    go_wp2_with (first
     |(go_at_call 134;refine(T.out _ X.out.below).mono ?_;rintro e w1 ⟨rfl,hb⟩;have X:=zV7 (X.out.went hb);obtain⟨x0,x1,x2,x3⟩:=X.out.box;clear hb)
     | (go_at_call 156;refine(NN.out _ X.out.below).mono ?_;rintro e w2 ⟨a',c',rfl,hr,hn,hb⟩;have X:=zV7 (X.out.went hb);clear hb hr hn))
    go_ret;exact⟨zAD (by rw[F.out];rfl),X.out.below⟩
   ·have F:=zV7 (F4.out (by simp));clear F3 F4
    go_wp2_with (first
     |(go_at_call 134;refine(T.out _ X.out.below).mono ?_;rintro e w1 ⟨rfl,hb⟩;have X:=zV7 (X.out.went hb);obtain⟨x0,x1,x2,x3⟩:=X.out.box;clear hb)
     | (go_at_call 156;refine(NN.out _ X.out.below).mono ?_;rintro e w2 ⟨a',c',rfl,hr,hn,hb⟩;have X:=zV7 (X.out.went hb);clear hb hr hn))
    go_roundw
    case rel=>exact⟨j+1,by omega,by go_num,F.out,X.out⟩
    case measure=>simp[intOf];omega
  ·have F:=zV7 (zOT A.out hlt);go_wp2_with (go_at_call 134;refine(T.out _ X.out.below).mono ?_;rintro e w1 ⟨rfl,hb⟩;have X:=zV7 (X.out.went hb);clear hb);go_ret;exact⟨zAD (by rw[F.out];rfl),X.out.below⟩
