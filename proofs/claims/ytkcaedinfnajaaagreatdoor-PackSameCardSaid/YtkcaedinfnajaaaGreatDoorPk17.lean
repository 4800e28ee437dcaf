/- A part of the proof. -/
import Derived.Test.YtkcaedinfnajaaaGreatDoorPk14
import Derived.Test.YtkcaedinfnajaaaGreatDoorPk10
set_option maxHeartbeats 4000000
set_option maxRecDepth 100000
set_option linter.unusedVariables false
namespace Go.Proofs.YtkcaedinfnajaaaGreatDoor
open Go.RowKit Go.Maps
namespace Gr
def fidx(p:Int×List Int->Bool)(R:List (Int×List Int)):Int:=match R.findIdx? p with|some i=>(i:Int)|Option.none=> -1
def zEV(p:Int×List Int->Bool)(R:List (Int×List Int))(k:Nat):Prop:=∀j (h:j<R.length),j<k->p R[j]=false
theorem zE1(p:Int×List Int->Bool)(R:List (Int×List Int)):zEV p R 0:=fun _ _ h=>absurd h (by omega)
theorem zE0{p:Int×List Int->Bool}{R:List (Int×List Int)}{k:Nat}(h:zEV p R k)(hk:k<R.length)(e:p R[k]=false):zEV p R (k+1):=fun j hj hl=>by
 by_cases he:j=k
 ·subst he;exact e
 ·exact h j hj (by omega)
theorem zJX{p:Int×List Int->Bool}{R:List (Int×List Int)}{k:Nat}(h:zEV p R k)(hk:k<R.length)(e:p R[k]=true):fidx p R=(k:Int):=by
 have:R.findIdx? p=some k:=by
  rw[List.findIdx?_eq_some_iff_getElem];exact⟨hk,e,fun j hj=>by simpa using h j (by omega) hj⟩
 simp[fidx,this]
theorem zJW{p:Int×List Int->Bool}{R:List (Int×List Int)}{k:Nat}(h:zEV p R k)(hk:¬k<R.length):fidx p R= -1:=by
 have:R.findIdx? p=Option.none:=by
  rw[List.findIdx?_eq_none_iff];intro x hx;obtain⟨j,hj,rfl⟩:=List.mem_iff_getElem.1 hx;exact h j hj (by omega)
 simp[fidx,this]
theorem zJV(p:Int×List Int->Bool)(R:List (Int×List Int)):decide (0<=fidx p R)=R.any p:=by
 unfold fidx;cases h:R.findIdx? p with
 |none=>
  rw[List.findIdx?_eq_none_iff]at h;simp[List.any_eq_false.2 (fun x hx=>by simpa using h x hx)]
 |some i=>
  rw[List.findIdx?_eq_some_iff_getElem]at h;obtain⟨hi,e,_⟩:=h;rw[List.any_eq_true.2 ⟨_,List.getElem_mem hi,e⟩];simp
def bigB(r:Int×List Int):Bool:=decide (8<r.2.length)
theorem zRo(r:Int×List Int)(a:Option Addr)(c:Nat)(w:World)(hl:r.2.length<=17592186044416):
  Calls Tryz.prog 122 #[.agg #[.int .i64 r.1,.slice a r.2.length c]] w (Is (.bool (bigB r)) w):=by
 by_cases h:8<r.2.length
 ·have E:=zVZ (show bigB r=true by simp[bigB,h]);go_enter Tryz.func122,Tryz.ntmps122;go_wp2;go_ret;refine⟨zAF ?_,boxed _ _⟩;rw[E.out];simp;omega
 ·have E:=zVZ (show bigB r=false by simp[bigB,h]);go_enter Tryz.func122,Tryz.ntmps122;go_wp2;go_ret;refine⟨zAF ?_,boxed _ _⟩;rw[E.out];simp;omega
def zDk(q:Nat)(r:Int×List Int)(w:World):Prop:=∃a c,w.cell? ⟨q,0,none⟩=some (.int .i64 r.1)/\w.cell? ⟨q,1,none⟩=some (.slice a r.2.length c)/\Sep.Reads a (ivs r.2) w/\r.2.length<=17592186044416
theorem zDk.later{q:Nat}{r:Int×List Int}{w w':World}(h:zDk q r w)(hb:Below w.heap.size w w'):zDk q r w':=by
 obtain⟨a,c,h1,h2,h3,h4⟩:=h;exact⟨a,c,cell_later hb h1,cell_later hb h2,h3.below hb (Nat.le_refl _),h4⟩
theorem zSt(q:Nat)(r o:Int×List Int)(a:Option Addr)(c:Nat)(w:World)(hq:zDk q r w)(ha:Sep.Reads a (ivs o.2) w)(hl:o.2.length<=17592186044416):
  Calls Tryz.prog 127 #[.agg #[.int .i64 o.1,.slice a o.2.length c],.pointer (some ⟨q,0,none⟩)] w (Is (.bool (zCW o r)) w):=by
 obtain⟨a',c',h1,h2,h3,h4⟩:=hq;have H:=zVZ (fun w1 (k:Below w.heap.size w w1)=>zN1 o r a a' c c' w1 (ha.below k (Nat.le_refl _)) (h3.below k (Nat.le_refl _)) hl h4);have hlt:q<w.heap.size:=World.block_lt_of_cell? w ⟨q,0,none⟩ h1;clear ha h3;go_enter Tryz.func127,Tryz.ntmps127;go_wp2_with (go_at_call 128;refine(H.out _ (boxed _ _)).mono ?_;rintro e w1 ⟨rfl,hb⟩;have HB:=zVZ (step (boxed _ _) hb);clear hb);go_ret;exact⟨rfl,HB.out⟩
theorem zMr(R:List (Int×List Int))(a:Option Addr)(c:Nat)(w:World)(ha:zBd a R w)(hl:R.length<=4398046511104):
  Calls Tryz.prog 78 #[.slice a R.length c,.func (.func 122) #[] #[]] w (Is (.int .i64 (fidx bigB R)) w):=by
 have HA:=zVZ (fun w1 (k:Below w.heap.size w w1)=>ha.below k (Nat.le_refl _));clear ha;go_enter Tryz.func78,Tryz.ntmps78;go_wp2;go_loopw [8] (fun i wr=>∃k:Nat,k<=R.length/\i=.int .i64 k/\zEV bigB R k/\Below w.heap.size w wr) (fun i _=>R.length-(intOf i).toNat)
 case atStart=>exact⟨0,Nat.zero_le _,rfl,zE1 _ _,.refl _ _⟩
 case round=>
  obtain⟨k,hk,rfl,hA,hW⟩:=hrel;have A:=zVZ hA;have HW:=zVZ hW;clear hA
  by_cases hlt:k<R.length
  ·obtain⟨b1,o1,ra,rc,rfl,h1,h2,h3,h4,h5⟩:=HA.out _ hW k hlt;have AE:=zVZ (fun he=>zE0 A.out hlt he);have AF:=zVZ (fun he=>zJX A.out hlt he);generalize R[k]=x at h1 h2 h3 h4 h5 AE AF;have HC:=zVZ (fun w1 (k:Below wr.heap.size wr w1)=>zRo x ra rc w1 (by omega));clear h3 h4 h5 hW;cases hs:bigB x with
   |false=>
    rw[hs]at HC;have A2:=zVZ (AE.out hs);clear hs;go_wp2_with (go_at_call 122;refine(HC.out _ (.refl _ _)).mono ?_;rintro e w1 ⟨rfl,hb⟩;have HB:=zVZ (step HW.out hb);clear hb);go_roundw
    case rel=>exact⟨k+1,by omega,by go_num,A2.out,HB.out⟩
    case measure=>simp[intOf];omega
   |true=>
    rw[hs]at HC;have F:=zVZ (AF.out hs);clear hs;go_wp2_with (go_at_call 122;refine(HC.out _ (.refl _ _)).mono ?_;rintro e w1 ⟨rfl,hb⟩;have HB:=zVZ (step HW.out hb);clear hb);go_ret;exact⟨zAc F.out,HB.out⟩
  ·have F:=zVZ (zJW A.out hlt);clear hW;go_wp2;go_ret;exact⟨zAc F.out,HW.out⟩
theorem zHG(R:List (Int×List Int))(a:Option Addr)(c:Nat)(w:World)(ha:zBd a R w)(hl:R.length<=4398046511104):
  Calls Tryz.prog 62 #[.slice a R.length c,.func (.func 122) #[] #[]] w (Is (.bool (R.any bigB)) w):=by
 have H:=zVZ (zMr R a c w ha hl);have E:=zVZ (zJV bigB R);clear ha;generalize fidx bigB R=n at H E;go_enter Tryz.func62,Tryz.ntmps62;go_wp2_with (go_at_call 78;refine H.out.mono ?_;rintro e w1 ⟨rfl,hb⟩;have HB:=zVZ hb;clear hb);go_ret;exact⟨zAF E.out.symm,HB.out⟩
theorem zMs(q:Nat)(r:Int×List Int)(R:List (Int×List Int))(a:Option Addr)(c:Nat)(w:World)(ha:zBd a R w)(hl:R.length<=4398046511104)(hq:zDk q r w):
  Calls Tryz.prog 78 #[.slice a R.length c,.func (.func 127) #[] #[.pointer (some ⟨q,0,none⟩)]] w (Is (.int .i64 (fidx (fun o=>zCW o r) R)) w):=by
 have HA:=zVZ (fun w1 (k:Below w.heap.size w w1)=>ha.below k (Nat.le_refl _));have HQ:=zVZ (fun w1 (k:Below w.heap.size w w1)=>hq.later k);clear hq;clear ha;go_enter Tryz.func78,Tryz.ntmps78;go_wp2;go_loopw [8] (fun i wr=>∃k:Nat,k<=R.length/\i=.int .i64 k/\zEV (fun o=>zCW o r) R k/\Below w.heap.size w wr) (fun i _=>R.length-(intOf i).toNat)
 case atStart=>exact⟨0,Nat.zero_le _,rfl,zE1 _ _,.refl _ _⟩
 case round=>
  obtain⟨k,hk,rfl,hA,hW⟩:=hrel;have A:=zVZ hA;have HW:=zVZ hW;clear hA
  by_cases hlt:k<R.length
  ·obtain⟨b1,o1,ra,rc,rfl,h1,h2,h3,h4,h5⟩:=HA.out _ hW k hlt;have AE:=zVZ (fun he=>zE0 A.out hlt he);have AF:=zVZ (fun he=>zJX A.out hlt he);generalize R[k]=x at h1 h2 h3 h4 h5 AE AF;have HC:=zVZ (fun w1 (k:Below wr.heap.size wr w1)=>zSt q r x ra rc w1 (HQ.out w1 (step hW k)) (Sep.Reads.below h3 k (Nat.le_refl _)) (by omega));clear h3 h4 h5 hW;cases hs:zCW x r with
   |false=>
    rw[hs]at HC;have A2:=zVZ (AE.out hs);clear hs;go_wp2_with (go_at_call 127;refine(HC.out _ (.refl _ _)).mono ?_;rintro e w1 ⟨rfl,hb⟩;have HB:=zVZ (step HW.out hb);clear hb);go_roundw
    case rel=>exact⟨k+1,by omega,by go_num,A2.out,HB.out⟩
    case measure=>simp[intOf];omega
   |true=>
    rw[hs]at HC;have F:=zVZ (AF.out hs);clear hs;go_wp2_with (go_at_call 127;refine(HC.out _ (.refl _ _)).mono ?_;rintro e w1 ⟨rfl,hb⟩;have HB:=zVZ (step HW.out hb);clear hb);go_ret;exact⟨zAc F.out,HB.out⟩
  ·have F:=zVZ (zJW A.out hlt);clear hW;go_wp2;go_ret;exact⟨zAc F.out,HW.out⟩
theorem zHH(q:Nat)(r:Int×List Int)(R:List (Int×List Int))(a:Option Addr)(c:Nat)(w:World)(ha:zBd a R w)(hl:R.length<=4398046511104)(hq:zDk q r w):
  Calls Tryz.prog 62 #[.slice a R.length c,.func (.func 127) #[] #[.pointer (some ⟨q,0,none⟩)]] w (Is (.bool (R.any (fun o=>zCW o r))) w):=by
 have H:=zVZ (zMs q r R a c w ha hl hq);have E:=zVZ (zJV (fun o=>zCW o r) R);clear ha;generalize fidx (fun o=>zCW o r) R=n at H E;go_enter Tryz.func62,Tryz.ntmps62;go_wp2_with (go_at_call 78;refine H.out.mono ?_;rintro e w1 ⟨rfl,hb⟩;have HB:=zVZ hb;clear hb);go_ret;exact⟨zAF E.out.symm,HB.out⟩
theorem zPn(h:Sh)(G:Gram)(w:World)(k:GAt h G w):
  Calls Tryz.prog 97 #[gv h G] w (Is (.bool (zBu G)) w):=by
 have t:=k.t2;have n:=k.n2;have r:=k.r2;have X:=zVZ (Bx.start h G w 41);have C:=zVZ (fun w1 (b:Below w.heap.size w w1)=>zHG G.rules h.a3 h.c3 w1 (k.went b).rules r);clear k;have E:=zVZ (show zBu G=(decide (120<G.terms.length)||decide (120<G.nons.length)||decide (300<G.rules.length)||G.rules.any bigB)from rfl);unfold gv;generalize G.rules.any bigB=b at*
 by_cases h1:120<G.terms.length
 ·rw[decide_eq_true h1]at E;simp only[Bool.true_or]at E;go_enter Tryz.func97,Tryz.ntmps97;go_wp2;go_ret;exact⟨zAF E.out,X.out.below⟩
 ·rw[decide_eq_false h1,Bool.false_or]at E
  by_cases h2:120<G.nons.length
  ·rw[decide_eq_true h2]at E;simp only[Bool.true_or]at E;go_enter Tryz.func97,Tryz.ntmps97;go_wp2;go_ret;exact⟨zAF E.out,X.out.below⟩
  ·rw[decide_eq_false h2,Bool.false_or]at E
   by_cases h3:300<G.rules.length
   ·rw[decide_eq_true h3]at E;simp only[Bool.true_or]at E;go_enter Tryz.func97,Tryz.ntmps97;go_wp2;go_ret;exact⟨zAF E.out,X.out.below⟩
   ·rw[decide_eq_false h3,Bool.false_or]at E;go_enter Tryz.func97,Tryz.ntmps97;go_wp2_with (go_at_call 62;refine(C.out _ X.out.below).mono ?_;rintro e w1 ⟨rfl,hb⟩;have X:=zVZ (X.out.went hb);clear hb);go_ret;exact⟨zAF E.out,X.out.below⟩
theorem zLQ{a:Option Addr}{R:List (Int×List Int)}{w:World}(h:zBd a R w)(k:Nat):zBd a (R.take k) w:=fun i hi=>by
 have hi':i<R.length:=by rw[List.length_take]at hi;omega
 have:=h i hi';rw[←List.getElem_take (h:=hi)]at this;exact this
theorem zP6{R:List (Int×List Int)}{k:Nat}(hk:k<R.length)(h:(R.take k).Nodup)(ha:(R.take k).any (fun o=>zCW o R[k])=false):(R.take (k+1)).Nodup:=by
 rw[List.take_succ_eq_append_getElem hk,List.nodup_append];refine⟨h,by simp,fun a hm b hb=>?_⟩;simp only[List.mem_singleton]at hb;subst hb;rintro rfl;have:=List.any_eq_false.1 ha _ hm;exact this (zH0.2 rfl)
theorem zP5{R:List (Int×List Int)}{k:Nat}(hk:k<R.length)(ha:(R.take k).any (fun o=>zCW o R[k])=true):¬R.Nodup:=by
 intro hN;obtain⟨o,hm,he⟩:=List.any_eq_true.1 ha;rw[zH0]at he;subst he;obtain⟨i,hi',e⟩:=List.mem_iff_getElem.1 hm;simp at hi';rw[List.getElem_take]at e;have:=(List.getElem_inj hN (i:=i) (j:=k) (h₀:=by omega) (h₁:=hk)).1 e;omega
theorem zFf(h:Sh)(G:Gram)(w:World)(k:GAt h G w):
  Calls Tryz.prog 101 #[gv h G] w (Is (.bool (!zB1 G)) w):=by
 have hc3:=k.r2;have hcap:=k.r1;obtain⟨a1,c1,a2,c2,a3,c3⟩:=h;have X:=zVZ (Bx.start ⟨a1,c1,a2,c2,a3,c3⟩ G w 41);have K:=zVZ (show∀w1,Below w.heap.size w w1->zBd a3 G.rules w1 from fun w1 (b:Below w.heap.size w w1)=>(k.went b).rules);have hmf:∀(fn:Fn) (first cap:Array Value) (w:World),(Instr.makeFunc fn first cap).run Tryz.prog w=.ok (.func fn first cap) w:=fun _ _ _ _=>rfl
 clear k;dsimp only at hcap;unfold gv;dsimp only;go_enter Tryz.func101,Tryz.ntmps101;go_wp2;go_loopw [8] (fun i wr=>∃j:Nat,j<=G.rules.length/\i=.int .i64 j/\(G.rules.take j).Nodup/\Bx w ⟨a1,c1,a2,c2,a3,c3⟩ G wr) (fun i _=>G.rules.length-(intOf i).toNat)
 case atStart=>exact⟨0,Nat.zero_le _,rfl,by simp,X.out⟩
 case round=>
  clear X;obtain⟨j,hj,rfl,hA,hX⟩:=hrel;have A:=zVZ hA;have X:=zVZ hX;obtain⟨x0,x1,x2,x3⟩:=hX.box;clear hA hX
  by_cases hlt:j<G.rules.length
  ·obtain⟨b,o,ra,rc,e,h1,h2,h3,h4,h5⟩:=K.out _ X.out.below j hlt
   try dsimp only at e
   subst e;have hsz:w.heap.size<wr.heap.size:=X.out.size;have AE:=zVZ (fun he=>zP6 hlt A.out he);have AF:=zVZ (fun he=>zP5 hlt he);generalize G.rules[j]=r at h1 h2 h3 h4 h5 AE AF;have RB:=zVZ (show zDk wr.heap.size r (wr.alloc (.cells #[.int .i64 r.1,.slice ra r.2.length rc] 55))from⟨ra,rc,zAC rfl rfl,zAC rfl rfl,Sep.Reads.below h3 (boxed _ _) (Nat.le_refl _),by omega⟩)
   have HC:=zVZ (show Calls Tryz.prog 62 #[.slice (some ⟨b,o,none⟩) j c3,.func (.func 127) #[] #[.pointer (some ⟨wr.heap.size,0,none⟩)]] (wr.alloc (.cells #[.int .i64 r.1,.slice ra r.2.length rc] 55)) (Is (.bool ((G.rules.take j).any (fun o=>zCW o r))) (wr.alloc (.cells #[.int .i64 r.1,.slice ra r.2.length rc] 55)))from by
    have:=zHH wr.heap.size r (G.rules.take j) (some ⟨b,o,none⟩) c3 _ (zLQ (K.out _ (X.out.alloc _).below) j) (by rw[List.length_take];omega) RB.out;rw[List.length_take,Nat.min_eq_left hj]at this
    exact this)
   clear h3 h4 h5 RB;cases hs:(G.rules.take j).any (fun o=>zCW o r)with
   |false=>
    rw[hs]at HC;have A2:=zVZ (AE.out hs);clear hs;go_wp2_with (go_at_call 62;refine HC.out.mono ?_;rintro e w1 ⟨rfl,hb⟩;have X:=zVZ ((X.out.alloc _).went hb);clear hb);go_roundw
    case rel=>exact⟨j+1,by omega,by go_num,A2.out,X.out⟩
    case measure=>simp[intOf];omega
   |true=>
    rw[hs]at HC;have F:=zVZ (AF.out hs);clear hs;go_wp2_with (go_at_call 62;refine HC.out.mono ?_;rintro e w1 ⟨rfl,hb⟩;have X:=zVZ ((X.out.alloc _).went hb);clear hb);go_ret;exact⟨zAF (by unfold zB1;rw[decide_eq_false F.out];rfl),X.out.below⟩
  ·have F:=zVZ (show G.rules.Nodup by have h1:=A.out;rw[List.take_of_length_le (by omega)]at h1;exact h1);go_wp2;go_ret;exact⟨zAF (by unfold zB1;rw[decide_eq_true F.out];rfl),X.out.below⟩
theorem zNy{G:Gram}{k:Nat}(h:∀i,i<k->0<(ofL G ((G.terms.length:Int)+1+i)).length)(hk:¬k<G.nons.length):zCf G=true:=by
 unfold zCf;rw[List.all_eq_true];intro i hi;have:=h i (by have:=List.mem_range.1 hi;omega);rw[zCq]at this;cases e:ofN G ((G.terms.length:Int)+1+i)with
 |nil=>rw[e]at this;simp at this
 |cons x l=>rfl
theorem zLP{G:Gram}{k:Nat}(hk:k<G.nons.length)(h:¬0<(ofL G ((G.terms.length:Int)+1+k)).length):zCf G=false:=by
 unfold zCf;rw[List.all_eq_false];refine⟨k,List.mem_range.2 hk,?_⟩;rw[zCq]at h;cases e:ofN G ((G.terms.length:Int)+1+k)with
 |nil=>simp
 |cons x l=>rw[e]at h;simp at h
theorem zJA(h:Sh)(G:Gram)(w:World)(k:GAt h G w)(hr:G.rules.length<=65536):
  Calls Tryz.prog 102 #[gv h G] w (Is (.bool (!zCf G)) w):=by
 have t:=k.t2;have n:=k.n2;have T:=zVZ (fun w1 (b:Below w.heap.size w w1)=>zB0 h G w1 (k.went b));have N:=zVZ (fun s w1 (b:Below w.heap.size w w1)=>zDX h G s w1 (k.went b) hr);have X:=zVZ (Bx.start h G w 41);have htop:(top G:Int)=(G.terms.length:Int)+(G.nons.length:Int):=by unfold top;omega
 have HT:=zVZ htop;generalize top G=tp at T htop;clear k HT;unfold gv;go_enter Tryz.func102,Tryz.ntmps102;go_wp2;go_loopw [3] (fun i wr=>∃j:Nat,j<=G.nons.length/\i=.int .i64 ((G.terms.length:Int)+1+j)/\(∀i,i<j->0<(ofL G ((G.terms.length:Int)+1+i)).length)/\Bx w h G wr) (fun i _=>(G.terms.length+G.nons.length+1)-(intOf i).toNat)
 case atStart=>exact⟨0,Nat.zero_le _,by go_num,fun _ h=>absurd h (by omega),X.out⟩
 case round=>
  clear X;obtain⟨j,hj,rfl,hA,hX⟩:=hrel;have A:=zVZ hA;have X:=zVZ hX;obtain⟨x0,x1,x2,x3⟩:=hX.box;clear hA hX
  by_cases hlt:j<G.nons.length
  ·have NN:=zVZ (N.out ((G.terms.length:Int)+1+j));have F3:=zVZ (zLP (G:=G) (k:=j) hlt)
   have F4:=zVZ (fun(h0:0<(ofL G ((G.terms.length:Int)+1+j)).length) i (hi:i<j+1)=>show 0<(ofL G ((G.terms.length:Int)+1+i)).length by
    by_cases e:i=j
    ·subst e;exact h0
    ·exact A.out i (by omega))
   generalize hL:ofL G ((G.terms.length:Int)+1+j)=L at NN F3 F4;clear hL;rcases L with _|⟨x,l⟩
   ·have F:=zVZ (F3.out (by simp));clear F3 F4
    go_wp2_with (first
     |(go_at_call 107;refine(T.out _ X.out.below).mono ?_;rintro e w1 ⟨rfl,hb⟩;have X:=zVZ (X.out.went hb);obtain⟨x0,x1,x2,x3⟩:=X.out.box;clear hb)
     | (go_at_call 129;refine(NN.out _ X.out.below).mono ?_;rintro e w2 ⟨a',c',rfl,hr,hn,hb⟩;have X:=zVZ (X.out.went hb);clear hb hr hn))
    go_ret;exact⟨zAF (by rw[F.out];rfl),X.out.below⟩
   ·have F:=zVZ (F4.out (by simp));clear F3 F4
    go_wp2_with (first
     |(go_at_call 107;refine(T.out _ X.out.below).mono ?_;rintro e w1 ⟨rfl,hb⟩;have X:=zVZ (X.out.went hb);obtain⟨x0,x1,x2,x3⟩:=X.out.box;clear hb)
     | (go_at_call 129;refine(NN.out _ X.out.below).mono ?_;rintro e w2 ⟨a',c',rfl,hr,hn,hb⟩;have X:=zVZ (X.out.went hb);clear hb hr hn))
    go_roundw
    case rel=>exact⟨j+1,by omega,by go_num,F.out,X.out⟩
    case measure=>simp[intOf];omega
  ·have F:=zVZ (zNy A.out hlt);go_wp2_with (go_at_call 107;refine(T.out _ X.out.below).mono ?_;rintro e w1 ⟨rfl,hb⟩;have X:=zVZ (X.out.went hb);clear hb);go_ret;exact⟨zAF (by rw[F.out];rfl),X.out.below⟩
def zLm(l:List Int)(w:World)(e:Ending)(w':World):Prop:=
 ∃a c,e=.returned (.slice a l.length c)/\Sep.Reads a (ivs l) w'/\New a w/\Below w.heap.size w w'/\l.length<=c
def zTk(r:Int×List Int)(ok:Bool)(w:World)(e:Ending)(w':World):Prop:=
 ∃a c,e=.returned (.tuple #[.agg #[.int .i64 r.1,.slice a r.2.length c],.bool ok])/\Sep.Reads a (ivs r.2) w'/\Below w.heap.size w w'/\New a w/\r.2.length<=c
theorem zMD(a:Option Addr)(l:List Int)(c:Nat)(w:World)(h:Sep.Reads a (ivs l) w)(hl:l.length<=17592186044416):
  Calls Tryz.prog 58 #[.slice a l.length c] w (zLm l w):=by
 obtain⟨i0,hi,hz0,hz1,hz2⟩:=info_parts zAz;cases a with
 |none=>
  have h0:l=[]:=by
   rcases l with _|⟨x,l⟩
   ·rfl
   ·obtain⟨_,_,e,_⟩:=h 0 (by simp[ivs]);cases e
  subst h0;have hn:=Lib.run_eql_slice_nil (P:=Tryz.prog);go_enter Tryz.func58,Tryz.ntmps58;go_wp2;go_ret;exact⟨Option.none,_,rfl,.nil _ _,(fun _ h=>by cases h),.refl _ _,Nat.zero_le _⟩
 |some x=>
  have HB:=zVZ (fun v (w1 w2:World) (h1:w2.ownsRow w.heap.size 3 1 v (0+l.length) ([]++ivs l)) (h2:(w.alloc (.cells #[] 3)).grownBy w2 (some w.heap.size))=>show zLm l w (.returned v) w2 from by
   rw[Nat.zero_add,List.nil_append]at h1;obtain⟨a',c',rfl⟩:=Sep.zA2 h1
   exact⟨a',c',rfl,.of_row h1,zGp h1 (Nat.le_refl _),((Below.refl _ _).alloc (Nat.le_refl _) _).grown h2 (by simp) fun k hk=>by injection hk with hk;omega,zTF h1⟩)
  have HO:=zVZ (World.ownsRow_made (base:=w.heap.size) (e:=3) (size:=1) w #[] 0 (Nat.le_refl _) (by simp) (by simp))
  have HN:=zVZ (show∀(j:Nat) (u:Value),(ivs l)[j]?=some u->(w.alloc (.cells #[] 3)).cell? (x.add j)=some u from fun j u hj=>by
   obtain⟨hj1,rfl⟩:=List.getElem?_eq_some_iff.1 hj;obtain⟨b,o,e,hc⟩:=h j hj1;injection e with e
   subst e;rw[WideShapes.add_plain]
   exact cell_later (boxed _ _) hc)
  have HL:=zVZ (zMy l);have hll:=zFy l;clear h;have hn:=Lib.run_eql_slice_nil (P:=Tryz.prog);have hb:=zFm;go_enter Tryz.func58,Tryz.ntmps58;go_wp2_with (at_builtin;refine wpList_append_own_at _ rfl _ _ 29 rfl w.heap.size 3 i0 (.int .i64 0) 1 8 Tryz.underlying29 hi hz0 hz1 hz2 rfl (by decide) _ _ _ rfl HO.out x l.length c (ivs l) rfl (by simp[ivs]) HN.out HL.out (by unfold maxLen;omega) (by omega) (by simp) ?_;intro v' w2 hown2 hg2 _ _;have HE:=zVZ (HB.out v' w w2 hown2 hg2);clear hown2 hg2);go_ret;exact HE.out
theorem zJ9(h:Sh)(G:Gram)(i:Int)(w:World)(k:GAt h G w):
  Calls Tryz.prog 75 #[gv h G,.int .i64 i] w (zTk (zAE G i) (zAY G i) w):=by
 have X:=zVZ (Bx.start h G w 41);have hc3:=k.r2
 by_cases h0:i<0\/(G.rules.length:Int)<i
 ·obtain⟨e1,e2⟩:=zKA h0;rw[e1,e2];clear k e1 e2
  by_cases h1:i<0
  ·clear h0;unfold gv;go_enter Tryz.func75,Tryz.ntmps75;go_wp2;exact bodyPost_ret (v:=.tuple #[.agg #[.int .i64 0,.slice Option.none 0 0],.bool false]) (by simp[results,Tryz.results75,go_sem]) rfl ⟨_,_,rfl,.nil _ _,(X.out.alloc _).below,(fun _ h=>by cases h),Nat.zero_le _⟩
  ·have h2:(G.rules.length:Int)<i:=by omega
   clear h0;unfold gv;go_enter Tryz.func75,Tryz.ntmps75;go_wp2;exact bodyPost_ret (v:=.tuple #[.agg #[.int .i64 0,.slice Option.none 0 0],.bool false]) (by simp[results,Tryz.results75,go_sem]) rfl ⟨_,_,rfl,.nil _ _,(X.out.alloc _).below,(fun _ h=>by cases h),Nat.zero_le _⟩
 ·by_cases h1:i=(G.rules.length:Int)
  ·subst h1;obtain⟨e1,e2⟩:=zAr G;rw[e1,e2];clear k e1 e2 h0;unfold gv;go_enter Tryz.func75,Tryz.ntmps75;go_wp2;refine bodyPost_ret (v:=.tuple #[.agg #[.int .i64 0,.slice (some ⟨w.heap.size+1+1,0,Option.none⟩) 1 1],.bool true]) (by simp[results,Tryz.results75,go_sem]) rfl ⟨_,_,rfl,zFE (zAC (by simp) rfl),((X.out.alloc _).alloc _).below,(fun x h=>by injection h with h;subst h;dsimp only;omega),Nat.le_refl _⟩
  ·obtain⟨j,rfl⟩:∃j:Nat,i=(j:Int):=⟨i.toNat,by omega⟩;have hj:j<G.rules.length:=by omega
   obtain⟨e1,e2⟩:=zBE hj;rw[e1,e2];obtain⟨a1,c1,a2,c2,a3,c3⟩:=h;obtain⟨b,o,ra,rc,e,g1,g2,g3,g4,g5⟩:=k.rules j hj;dsimp only at e;subst e;generalize G.rules[j]=r at g1 g2 g3 g4 g5⊢;have hblt:b<w.heap.size:=World.block_lt_of_cell? w ⟨b,o+j*2,Option.none⟩ g1;have HR:=zVZ (show Sep.Reads ra (ivs r.2) w from g3);clear k e1 e2 h0 h1 g3;unfold gv;dsimp only;go_enter Tryz.func75,Tryz.ntmps75;go_wp2;obtain⟨wq,hwq⟩:∃wq,((w.alloc (.cells #[.slice a1 G.terms.length c1,.slice a2 G.nons.length c2,.slice (some ⟨b,o,Option.none⟩) G.rules.length c3,.int .i64 G.start] 41)).alloc (.cells #[.int .i64 0,.slice Option.none 0 0] 55)).alloc (.cells #[.int .i64 r.1,.slice ra r.2.length rc] 55)=wq:=⟨_,rfl⟩;rw[hwq];have q0:wq.cell? ⟨w.heap.size+1+1,0,Option.none⟩=some (.int .i64 r.1):=by rw[←hwq];exact zAC (by simp) rfl
   have q1:wq.cell? ⟨w.heap.size+1+1,1,Option.none⟩=some (.slice ra r.2.length rc):=by rw[←hwq];exact zAC (by simp) rfl
   have q2:wq.cell? ⟨w.heap.size+1,0,Option.none⟩=some (.int .i64 0):=by rw[←hwq];exact zAR (zAC (by simp) rfl)
   have q3:wq.cell? ⟨w.heap.size+1,1,Option.none⟩=some (.slice Option.none 0 0):=by rw[←hwq];exact zAR (zAC (by simp) rfl)
   have q4:wq.frozen? ⟨w.heap.size+1,0,Option.none⟩=false:=by rw[←hwq];exact zBB (i:=0) (boxed _ _) (zCI (by simp)) (zAC (by simp) rfl)
   have q5:wq.frozen? ⟨w.heap.size+1,1,Option.none⟩=false:=by rw[←hwq];exact zBB (i:=0) (boxed _ _) (zCI (by simp)) (zAC (by simp) rfl)
   have QB:=zVZ (show Below w.heap.size w wq by rw[←hwq];exact((X.out.alloc _).alloc _).below);have QC:=zVZ (fun w1 (k:Below wq.heap.size wq w1)=>zMD ra r.2 rc w1 ((HR.out.below QB.out (Nat.le_refl _)).below k (Nat.le_refl _)) (by omega))
   have HQ:=zVZ (show∀w',Below wq.heap.size wq w'->w'.cell? ⟨w.heap.size+1+1,0,Option.none⟩=some (.int .i64 r.1)/\w'.cell? ⟨w.heap.size+1+1,1,Option.none⟩=some (.slice ra r.2.length rc)/\Below w.heap.size w w'
    from fun w' hb=>⟨cell_later hb q0,cell_later hb q1,QB.out.trans (hb.mono QB.out.size)⟩)
   have HT:=zVZ (show∀w' u v,Below wq.heap.size wq w'->((w'.setCell ⟨w.heap.size+1,0,Option.none⟩ u).setCell ⟨w.heap.size+1,1,Option.none⟩ v).cell? ⟨w.heap.size+1+1,0,Option.none⟩=some (.int .i64 r.1)/\((w'.setCell ⟨w.heap.size+1,0,Option.none⟩ u).setCell ⟨w.heap.size+1,1,Option.none⟩ v).cell? ⟨w.heap.size+1+1,1,Option.none⟩=some (.slice ra r.2.length rc)/\Below w.heap.size w ((w'.setCell ⟨w.heap.size+1,0,Option.none⟩ u).setCell ⟨w.heap.size+1,1,Option.none⟩ v)
    from fun w' u v hb=>⟨by rw[World.cell?_setCell_other _ _ _ _ (by intro e;simp at e),World.cell?_setCell_other _ _ _ _ (by intro e;simp at e)];exact cell_later hb q0,by rw[World.cell?_setCell_other _ _ _ _ (by intro e;simp at e),World.cell?_setCell_other _ _ _ _ (by intro e;simp at e)];exact cell_later hb q1,
     ((QB.out.trans (hb.mono QB.out.size)).setCell (by simp) _).setCell (by simp) _⟩)
   have hbd:=drawn wq;clear hwq X HR
   go_region_held3 (fun w'=>w'.cell? ⟨w.heap.size+1+1,0,Option.none⟩=some (.int .i64 r.1)/\w'.cell? ⟨w.heap.size+1+1,1,Option.none⟩=some (.slice ra r.2.length rc)/\Below w.heap.size w w')
    (first|exact HQ.out _ (by assumption)|exact HT.out _ _ _ (by assumption))
    (first
     |(go_at_call 58;refine(QC.out _ hbd).mono ?_;rintro e wn ⟨a',c',rfl,hr,hnew,hb,hcp⟩;have HCP:=zVZ hcp;have HR3:=zVZ hr;have HN:=zVZ hnew;have kB:Below wq.heap.size wq wn:=step hbd hb;have z2:=cell_later kB q2;have z3:=cell_later kB q3;have z4:=zBB kB q4 q2;have z5:=zBB kB q5 q2;clear hr hnew hb hcp)
     |fail)
   go_wp2;have hqs:=World.block_lt_of_cell? wq ⟨w.heap.size+1,0,Option.none⟩ q2
   have f0:((wn.setCell ⟨w.heap.size+1,0,Option.none⟩ (.int .i64 r.1)).setCell ⟨w.heap.size+1,1,Option.none⟩ (.slice a' r.2.length c')).cell? ⟨w.heap.size+1,0,Option.none⟩=some (.int .i64 r.1):=by
    rw[World.cell?_setCell_other _ _ _ _ (by intro e;simp at e)];exact World.cell?_setCell_same _ _ _ z2
   have f1:((wn.setCell ⟨w.heap.size+1,0,Option.none⟩ (.int .i64 r.1)).setCell ⟨w.heap.size+1,1,Option.none⟩ (.slice a' r.2.length c')).cell? ⟨w.heap.size+1,1,Option.none⟩=some (.slice a' r.2.length c'):=by
    have y3:(wn.setCell ⟨w.heap.size+1,0,Option.none⟩ (.int .i64 r.1)).cell? ⟨w.heap.size+1,1,Option.none⟩=some (.slice Option.none 0 0):=by
     rw[World.cell?_setCell_other _ _ _ _ (by intro e;simp at e)];exact z3
    exact World.cell?_setCell_same _ _ _ y3
   have HF:=zVZ (show Sep.Reads a' (ivs r.2) ((wn.setCell ⟨w.heap.size+1,0,Option.none⟩ (.int .i64 r.1)).setCell ⟨w.heap.size+1,1,Option.none⟩ (.slice a' r.2.length c'))from HR3.out.keep fun b' o' e'=>by
    have hn:=HN.out _ e';have hn':wq.heap.size<=b':=hn;have hqs':w.heap.size+1<wq.heap.size:=hqs
    rw[Below.heap_setCell _ _ _ _ (by simp;omega),Below.heap_setCell _ _ _ _ (by simp;omega)])
   exact bodyPost_ret (v:=.tuple #[.agg #[.int .i64 r.1,.slice a' r.2.length c'],.bool true]) (by simp[results,Tryz.results75,go_sem,f0,f1]) rfl ⟨_,_,rfl,HF.out,(HT.out _ _ _ kB).2.2,(fun x hx=>by have h1:=HN.out x hx;have hqs':w.heap.size+1<wq.heap.size:=hqs;have h2:wq.heap.size<=x.block:=h1;omega),HCP.out⟩
