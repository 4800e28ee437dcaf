/- Proof. -/
import Derived.Test.YtegeamggbglneaaGreatDoorPk07
import Derived.Test.YtegeamggbglneaaGreatDoorPk25
set_option maxHeartbeats 8000000
set_option maxRecDepth 100000
set_option linter.unusedVariables false
namespace Go.Proofs.YtegeamggbglneaaGreatDoor
open Go.RowKit Go.Maps
namespace Gr
def jC(p:Int×List Int->Bool)(R:List (Int×List Int)):Int:=match R.findIdx? p with|some i=>(i:Int)|Option.none=> -1
def yQ(p:Int×List Int->Bool)(R:List (Int×List Int))(k:Nat):Prop:=∀j (h:j<R.length),j<k->p R[j]=false
theorem TZ(p)(R):yQ p R 0:=fun _ _ h=>absurd h (by omega)
theorem TY{p}{R}{k}(h:yQ p R k)(hk)(e:p R[k]=false):yQ p R (k+1):=fun j hj hl=>by
 by_cases he:j=k
 ·subst he;exact e
 ·exact h j hj (by omega)
theorem V8{p}{R}{k}(h:yQ p R k)(hk)(e:p R[k]=true):jC p R=(k:Int):=by
 have:R.findIdx? p=some k:=by
  rw[List.findIdx?_eq_some_iff_getElem];exact⟨hk,e,fun j hj=>by simpa using h j (by omega) hj⟩
 simp[jC,this]
theorem VN{p}{R}{k}(h:yQ p R k)(hk:¬k<R.length):jC p R= -1:=by
 have:R.findIdx? p=Option.none:=by
  rw[List.findIdx?_eq_none_iff];intro x hx;obtain⟨j,hj,rfl⟩:=List.mem_iff_getElem.1 hx;exact h j hj (by omega)
 simp[jC,this]
theorem VM(p)(R):decide (0<=jC p R)=R.any p:=by
 unfold jC;cases h:R.findIdx? p with
 |none=>
  rw[List.findIdx?_eq_none_iff]at h;simp[List.any_eq_false.2 (fun x hx=>by simpa using h x hx)]
 |some i=>
  rw[List.findIdx?_eq_some_iff_getElem]at h;obtain⟨hi,e,_⟩:=h;rw[List.any_eq_true.2 ⟨_,List.getElem_mem hi,e⟩];simp
def gQ(r:Int×List Int):Bool:=decide (8<r.2.length)
theorem zSt(r)(a)(c)(w)(hl:r.2.length<=17592186044416):
  Calls Tryz.prog 149 #[.agg #[.int .i64 r.1,.slice a r.2.length c]] w (Is (.bool (gQ r)) w):=by
 by_cases h:8<r.2.length
 ·have E:=af (show gQ r=true by simp[gQ,h]);go_enter Tryz.func149,Tryz.ntmps149;go_wp2;go_ret;refine⟨aU ?_,boxed _ _⟩;rw[E.out];simp;omega
 ·have E:=af (show gQ r=false by simp[gQ,h]);go_enter Tryz.func149,Tryz.ntmps149;go_wp2;go_ret;refine⟨aU ?_,boxed _ _⟩;rw[E.out];simp;omega
def yJ(q:Nat)(r:Int×List Int)(w:World):Prop:=∃a c,w.cell? ⟨q,0,none⟩=some (.int .i64 r.1)/\w.cell? ⟨q,1,none⟩=some (.slice a r.2.length c)/\Sep.Reads a (aN r.2) w/\r.2.length<=17592186044416
theorem yJ.later{q}{r}{w w'}(h:yJ q r w)(hb:Below w.heap.size w w'):yJ q r w':=by
 obtain⟨a,c,h1,h2,h3,h4⟩:=h;exact⟨a,c,cell_later hb h1,cell_later hb h2,h3.below hb (Nat.le_refl _),h4⟩
theorem zT0(q)(r o)(a)(c)(w)(hq:yJ q r w)(ha:Sep.Reads a (aN o.2) w)(hl:o.2.length<=17592186044416):
  Calls Tryz.prog 154 #[.agg #[.int .i64 o.1,.slice a o.2.length c],.pointer (some ⟨q,0,none⟩)] w (Is (.bool (iF o r)) w):=by
 obtain⟨a',c',h1,h2,h3,h4⟩:=hq;have H:=af (fun w1 (k:Below w.heap.size w w1)=>zOt o r a a' c c' w1 (ha.below k (Nat.le_refl _)) (h3.below k (Nat.le_refl _)) hl h4);have hlt:q<w.heap.size:=World.block_lt_of_cell? w ⟨q,0,none⟩ h1;clear ha h3;go_enter Tryz.func154,Tryz.ntmps154;go_wp2_with (go_at_call 155;refine(H.out _ (boxed _ _)).mono ?_;rintro e w1 ⟨rfl,hb⟩;have HB:=af (step (boxed _ _) hb);clear hb);go_ret;exact⟨rfl,HB.out⟩
theorem zNX(R)(a)(c)(w)(ha:pE a R w)(hl:R.length<=4398046511104):
  Calls Tryz.prog 101 #[.slice a R.length c,.func (.func 149) #[] #[]] w (Is (.int .i64 (jC gQ R)) w):=by
 have HA:=af (fun w1 (k:Below w.heap.size w w1)=>ha.below k (Nat.le_refl _));clear ha;go_enter Tryz.func101,Tryz.ntmps101;go_wp2;go_loopw [8] (fun i wr=>∃k:Nat,k<=R.length/\i=.int .i64 k/\yQ gQ R k/\Below w.heap.size w wr) (fun i _=>R.length-(intOf i).toNat)
 case atStart=>exact⟨0,Nat.zero_le _,rfl,TZ _ _,.refl _ _⟩
 case round=>
  obtain⟨k,hk,rfl,hA,hW⟩:=hrel;have A:=af hA;have HW:=af hW;clear hA
  by_cases hlt:k<R.length
  ·obtain⟨b1,o1,ra,rc,rfl,h1,h2,h3,h4,h5⟩:=HA.out _ hW k hlt;have AE:=af (fun he=>TY A.out hlt he);have AF:=af (fun he=>V8 A.out hlt he);generalize R[k]=x at h1 h2 h3 h4 h5 AE AF;have HC:=af (fun w1 (k:Below wr.heap.size wr w1)=>zSt x ra rc w1 (by omega));clear h3 h4 h5 hW;cases hs:gQ x with
   |false=>
    rw[hs]at HC;have A2:=af (AE.out hs);clear hs;go_wp2_with (go_at_call 149;refine(HC.out _ (.refl _ _)).mono ?_;rintro e w1 ⟨rfl,hb⟩;have HB:=af (step HW.out hb);clear hb);go_roundw
    case rel=>exact⟨k+1,by omega,by go_num,A2.out,HB.out⟩
    case measure=>simp[intOf];omega
   |true=>
    rw[hs]at HC;have F:=af (AF.out hs);clear hs;go_wp2_with (go_at_call 149;refine(HC.out _ (.refl _ _)).mono ?_;rintro e w1 ⟨rfl,hb⟩;have HB:=af (step HW.out hb);clear hb);go_ret;exact⟨jP F.out,HB.out⟩
  ·have F:=af (VN A.out hlt);clear hW;go_wp2;go_ret;exact⟨jP F.out,HW.out⟩
theorem zH0(R)(a)(c)(w)(ha:pE a R w)(hl:R.length<=4398046511104):
  Calls Tryz.prog 78 #[.slice a R.length c,.func (.func 149) #[] #[]] w (Is (.bool (R.any gQ)) w):=by
 have H:=af (zNX R a c w ha hl);have E:=af (VM gQ R);clear ha;generalize jC gQ R=n at H E;go_enter Tryz.func78,Tryz.ntmps78;go_wp2_with (go_at_call 101;refine H.out.mono ?_;rintro e w1 ⟨rfl,hb⟩;have HB:=af hb;clear hb);go_ret;exact⟨aU E.out.symm,HB.out⟩
theorem zNY(q)(r)(R)(a)(c)(w)(ha:pE a R w)(hl:R.length<=4398046511104)(hq:yJ q r w):
  Calls Tryz.prog 101 #[.slice a R.length c,.func (.func 154) #[] #[.pointer (some ⟨q,0,none⟩)]] w (Is (.int .i64 (jC (fun o=>iF o r) R)) w):=by
 have HA:=af (fun w1 (k:Below w.heap.size w w1)=>ha.below k (Nat.le_refl _));have HQ:=af (fun w1 (k:Below w.heap.size w w1)=>hq.later k);clear hq;clear ha;go_enter Tryz.func101,Tryz.ntmps101;go_wp2;go_loopw [8] (fun i wr=>∃k:Nat,k<=R.length/\i=.int .i64 k/\yQ (fun o=>iF o r) R k/\Below w.heap.size w wr) (fun i _=>R.length-(intOf i).toNat)
 case atStart=>exact⟨0,Nat.zero_le _,rfl,TZ _ _,.refl _ _⟩
 case round=>
  obtain⟨k,hk,rfl,hA,hW⟩:=hrel;have A:=af hA;have HW:=af hW;clear hA
  by_cases hlt:k<R.length
  ·obtain⟨b1,o1,ra,rc,rfl,h1,h2,h3,h4,h5⟩:=HA.out _ hW k hlt;have AE:=af (fun he=>TY A.out hlt he);have AF:=af (fun he=>V8 A.out hlt he);generalize R[k]=x at h1 h2 h3 h4 h5 AE AF;have HC:=af (fun w1 (k:Below wr.heap.size wr w1)=>zT0 q r x ra rc w1 (HQ.out w1 (step hW k)) (Sep.Reads.below h3 k (Nat.le_refl _)) (by omega));clear h3 h4 h5 hW;cases hs:iF x r with
   |false=>
    rw[hs]at HC;have A2:=af (AE.out hs);clear hs;go_wp2_with (go_at_call 154;refine(HC.out _ (.refl _ _)).mono ?_;rintro e w1 ⟨rfl,hb⟩;have HB:=af (step HW.out hb);clear hb);go_roundw
    case rel=>exact⟨k+1,by omega,by go_num,A2.out,HB.out⟩
    case measure=>simp[intOf];omega
   |true=>
    rw[hs]at HC;have F:=af (AF.out hs);clear hs;go_wp2_with (go_at_call 154;refine(HC.out _ (.refl _ _)).mono ?_;rintro e w1 ⟨rfl,hb⟩;have HB:=af (step HW.out hb);clear hb);go_ret;exact⟨jP F.out,HB.out⟩
  ·have F:=af (VN A.out hlt);clear hW;go_wp2;go_ret;exact⟨jP F.out,HW.out⟩
theorem zH1(q)(r)(R)(a)(c)(w)(ha:pE a R w)(hl:R.length<=4398046511104)(hq:yJ q r w):
  Calls Tryz.prog 78 #[.slice a R.length c,.func (.func 154) #[] #[.pointer (some ⟨q,0,none⟩)]] w (Is (.bool (R.any (fun o=>iF o r))) w):=by
 have H:=af (zNY q r R a c w ha hl hq);have E:=af (VM (fun o=>iF o r) R);clear ha;generalize jC (fun o=>iF o r) R=n at H E;go_enter Tryz.func78,Tryz.ntmps78;go_wp2_with (go_at_call 101;refine H.out.mono ?_;rintro e w1 ⟨rfl,hb⟩;have HB:=af hb;clear hb);go_ret;exact⟨aU E.out.symm,HB.out⟩
theorem zQp(h)(G)(w)(k:bI h G w):
  Calls Tryz.prog 124 #[gv h G] w (Is (.bool (jv G)) w):=by
 have t:=k.t2;have n:=k.n2;have r:=k.r2;have X:=af (Bx.start h G w 47);have C:=af (fun w1 (b:Below w.heap.size w w1)=>zH0 G.rules h.a3 h.c3 w1 (k.went b).rules r);clear k;have E:=af (show jv G=(decide (120<G.terms.length)||decide (120<G.ah.length)||decide (300<G.rules.length)||G.rules.any gQ)from rfl);unfold gv;generalize G.rules.any gQ=b at*
 by_cases h1:120<G.terms.length
 ·rw[decide_eq_true h1]at E;simp only[Bool.true_or]at E;go_enter Tryz.func124,Tryz.ntmps124;go_wp2;go_ret;exact⟨aU E.out,X.out.below⟩
 ·rw[decide_eq_false h1,Bool.false_or]at E
  by_cases h2:120<G.ah.length
  ·rw[decide_eq_true h2]at E;simp only[Bool.true_or]at E;go_enter Tryz.func124,Tryz.ntmps124;go_wp2;go_ret;exact⟨aU E.out,X.out.below⟩
  ·rw[decide_eq_false h2,Bool.false_or]at E
   by_cases h3:300<G.rules.length
   ·rw[decide_eq_true h3]at E;simp only[Bool.true_or]at E;go_enter Tryz.func124,Tryz.ntmps124;go_wp2;go_ret;exact⟨aU E.out,X.out.below⟩
   ·rw[decide_eq_false h3,Bool.false_or]at E;go_enter Tryz.func124,Tryz.ntmps124;go_wp2_with (go_at_call 78;refine(C.out _ X.out.below).mono ?_;rintro e w1 ⟨rfl,hb⟩;have X:=af (X.out.went hb);clear hb);go_ret;exact⟨aU E.out,X.out.below⟩
theorem zL2{a}{R}{w}(h:pE a R w)(k):pE a (R.take k) w:=fun i hi=>by
 have hi':i<R.length:=by rw[List.length_take]at hi;omega
 have:=h i hi';rw[←List.getElem_take (h:=hi)]at this;exact this
theorem zQ9{R:List (Int×List Int)}{k}(hk)(h:(R.take k).Nodup)(ha:(R.take k).any (fun o=>iF o R[k])=false):(R.take (k+1)).Nodup:=by
 rw[List.take_succ_eq_append_getElem hk,List.nodup_append];refine⟨h,by simp,fun a hm b hb=>?_⟩;simp only[List.mem_singleton]at hb;subst hb;rintro rfl;have:=List.any_eq_false.1 ha _ hm;exact this (MX.2 rfl)
theorem zQ8{R:List (Int×List Int)}{k}(hk)(ha:(R.take k).any (fun o=>iF o R[k])=true):¬R.Nodup:=by
 intro hN;obtain⟨o,hm,he⟩:=List.any_eq_true.1 ha;rw[MX]at he;subst he;obtain⟨i,hi',e⟩:=List.mem_iff_getElem.1 hm;simp at hi';rw[List.getElem_take]at e;have:=(List.getElem_inj hN (i:=i) (j:=k) (h₀:=by omega) (h₁:=hk)).1 e;omega
theorem zGE(h:Sh)(G:ai)(w:World)(k:bI h G w):
  Calls Tryz.prog 128 #[gv h G] w (Is (.bool (!sI G)) w):=by
 have hc3:=k.r2;have hcap:=k.r1;obtain⟨a1,c1,a2,c2,a3,c3⟩:=h;have X:=af (Bx.start ⟨a1,c1,a2,c2,a3,c3⟩ G w 47);have K:=af (show∀w1,Below w.heap.size w w1->pE a3 G.rules w1 from fun w1 (b:Below w.heap.size w w1)=>(k.went b).rules);have hmf:∀(fn:Fn) (first cap:Array Value) (w:World),(Instr.makeFunc fn first cap).run Tryz.prog w=.ok (.func fn first cap) w:=fun _ _ _ _=>rfl
 clear k;dsimp only at hcap;unfold gv;dsimp only;go_enter Tryz.func128,Tryz.ntmps128;go_wp2;go_loopw [8] (fun i wr=>∃j:Nat,j<=G.rules.length/\i=.int .i64 j/\(G.rules.take j).Nodup/\Bx w ⟨a1,c1,a2,c2,a3,c3⟩ G wr) (fun i _=>G.rules.length-(intOf i).toNat)
 case atStart=>exact⟨0,Nat.zero_le _,rfl,by simp,X.out⟩
 case round=>
  clear X;obtain⟨j,hj,rfl,hA,hX⟩:=hrel;have A:=af hA;have X:=af hX;obtain⟨x0,x1,x2,x3⟩:=hX.box;clear hA hX
  by_cases hlt:j<G.rules.length
  ·obtain⟨b,o,ra,rc,e,h1,h2,h3,h4,h5⟩:=K.out _ X.out.below j hlt
   try dsimp only at e
   subst e;have hsz:w.heap.size<wr.heap.size:=X.out.size;have AE:=af (fun he=>zQ9 hlt A.out he);have AF:=af (fun he=>zQ8 hlt he);generalize G.rules[j]=r at h1 h2 h3 h4 h5 AE AF;have RB:=af (show yJ wr.heap.size r (wr.alloc (.cells #[.int .i64 r.1,.slice ra r.2.length rc] 55))from⟨ra,rc,bg rfl rfl,bg rfl rfl,Sep.Reads.below h3 (boxed _ _) (Nat.le_refl _),by omega⟩)
   have HC:=af (show Calls Tryz.prog 78 #[.slice (some ⟨b,o,none⟩) j c3,.func (.func 154) #[] #[.pointer (some ⟨wr.heap.size,0,none⟩)]] (wr.alloc (.cells #[.int .i64 r.1,.slice ra r.2.length rc] 55)) (Is (.bool ((G.rules.take j).any (fun o=>iF o r))) (wr.alloc (.cells #[.int .i64 r.1,.slice ra r.2.length rc] 55)))from by
    have:=zH1 wr.heap.size r (G.rules.take j) (some ⟨b,o,none⟩) c3 _ (zL2 (K.out _ (X.out.alloc _).below) j) (by rw[List.length_take];omega) RB.out;rw[List.length_take,Nat.min_eq_left hj]at this
    exact this)
   clear h3 h4 h5 RB;cases hs:(G.rules.take j).any (fun o=>iF o r)with
   |false=>
    rw[hs]at HC;have A2:=af (AE.out hs);clear hs;go_wp2_with (go_at_call 78;refine HC.out.mono ?_;rintro e w1 ⟨rfl,hb⟩;have X:=af ((X.out.alloc _).went hb);clear hb);go_roundw
    case rel=>exact⟨j+1,by omega,by go_num,A2.out,X.out⟩
    case measure=>simp[intOf];omega
   |true=>
    rw[hs]at HC;have F:=af (AF.out hs);clear hs;go_wp2_with (go_at_call 78;refine HC.out.mono ?_;rintro e w1 ⟨rfl,hb⟩;have X:=af ((X.out.alloc _).went hb);clear hb);go_ret;exact⟨aU (by unfold sI;rw[decide_eq_false F.out];rfl),X.out.below⟩
  ·have F:=af (show G.rules.Nodup by have h1:=A.out;rw[List.take_of_length_le (by omega)]at h1;exact h1);go_wp2;go_ret;exact⟨aU (by unfold sI;rw[decide_eq_true F.out];rfl),X.out.below⟩
theorem zOq{G}{k:Nat}(h:∀i,i<k->0<(oC G ((G.terms.length:Int)+1+i)).length)(hk:¬k<G.ah.length):rM G=true:=by
 unfold rM;rw[List.all_eq_true];intro i hi;have:=h i (by have:=List.mem_range.1 hi;omega);rw[GF]at this;cases e:dD G ((G.terms.length:Int)+1+i)with
 |nil=>rw[e]at this;simp at this
 |cons x l=>rfl
theorem zL1{G}{k:Nat}(hk:k<G.ah.length)(h:¬0<(oC G ((G.terms.length:Int)+1+k)).length):rM G=false:=by
 unfold rM;rw[List.all_eq_false];refine⟨k,List.mem_range.2 hk,?_⟩;rw[GF]at h;cases e:dD G ((G.terms.length:Int)+1+k)with
 |nil=>simp
 |cons x l=>rw[e]at h;simp at h
theorem zJp(h:Sh)(G:ai)(w:World)(k:bI h G w)(hr:G.rules.length<=65536):
  Calls Tryz.prog 129 #[gv h G] w (Is (.bool (!rM G)) w):=by
 have t:=k.t2;have n:=k.n2;have T:=af (fun w1 (b:Below w.heap.size w w1)=>sD h G w1 (k.went b));have N:=af (fun s w1 (b:Below w.heap.size w w1)=>pF h G s w1 (k.went b) hr);have X:=af (Bx.start h G w 47);have htop:(top G:Int)=(G.terms.length:Int)+(G.ah.length:Int):=by unfold top;omega
 have HT:=af htop;generalize top G=tp at T htop;clear k HT;unfold gv;go_enter Tryz.func129,Tryz.ntmps129;go_wp2;go_loopw [3] (fun i wr=>∃j:Nat,j<=G.ah.length/\i=.int .i64 ((G.terms.length:Int)+1+j)/\(∀i,i<j->0<(oC G ((G.terms.length:Int)+1+i)).length)/\Bx w h G wr) (fun i _=>(G.terms.length+G.ah.length+1)-(intOf i).toNat)
 case atStart=>exact⟨0,Nat.zero_le _,by go_num,fun _ h=>absurd h (by omega),X.out⟩
 case round=>
  clear X;obtain⟨j,hj,rfl,hA,hX⟩:=hrel;have A:=af hA;have X:=af hX;obtain⟨x0,x1,x2,x3⟩:=hX.box;clear hA hX
  by_cases hlt:j<G.ah.length
  ·have NN:=af (N.out ((G.terms.length:Int)+1+j));have F3:=af (zL1 (G:=G) (k:=j) hlt)
   have F4:=af (fun(h0:0<(oC G ((G.terms.length:Int)+1+j)).length) i (hi:i<j+1)=>show 0<(oC G ((G.terms.length:Int)+1+i)).length by
    by_cases e:i=j
    ·subst e;exact h0
    ·exact A.out i (by omega))
   generalize hL:oC G ((G.terms.length:Int)+1+j)=L at NN F3 F4;clear hL;rcases L with _|⟨x,l⟩
   ·have F:=af (F3.out (by simp));clear F3 F4
    go_wp2_with (first
     |(go_at_call 134;refine(T.out _ X.out.below).mono ?_;rintro e w1 ⟨rfl,hb⟩;have X:=af (X.out.went hb);obtain⟨x0,x1,x2,x3⟩:=X.out.box;clear hb)
     | (go_at_call 156;refine(NN.out _ X.out.below).mono ?_;rintro e w2 ⟨a',c',rfl,hr,hn,hb⟩;have X:=af (X.out.went hb);clear hb hr hn))
    go_ret;exact⟨aU (by rw[F.out];rfl),X.out.below⟩
   ·have F:=af (F4.out (by simp));clear F3 F4
    go_wp2_with (first
     |(go_at_call 134;refine(T.out _ X.out.below).mono ?_;rintro e w1 ⟨rfl,hb⟩;have X:=af (X.out.went hb);obtain⟨x0,x1,x2,x3⟩:=X.out.box;clear hb)
     | (go_at_call 156;refine(NN.out _ X.out.below).mono ?_;rintro e w2 ⟨a',c',rfl,hr,hn,hb⟩;have X:=af (X.out.went hb);clear hb hr hn))
    go_roundw
    case rel=>exact⟨j+1,by omega,by go_num,F.out,X.out⟩
    case measure=>simp[intOf];omega
  ·have F:=af (zOq A.out hlt);go_wp2_with (go_at_call 134;refine(T.out _ X.out.below).mono ?_;rintro e w1 ⟨rfl,hb⟩;have X:=af (X.out.went hb);clear hb);go_ret;exact⟨aU (by rw[F.out];rfl),X.out.below⟩
end Gr
namespace Pk
open Gr (cell_later boxed drawn Hq UA jw iF)
theorem UB(L):jw L L=true:=by simp[jw]
theorem zL3(r):iF r r=true:=Gr.MX.2 rfl
theorem zIi(T:Pd)(yi:Option Addr)(tK:Nat)(vN:Option Addr)(u9:Nat)(yj:Option Addr)(tL:Nat)(vM:Option Addr)(uZ:Nat)(yh:Option Addr)(tJ:Nat)(Dm:Option Addr)(xt:Nat)(zF:Option Addr)(za:Nat)(Dn:Option Addr)(xu:Nat)(zE:Option Addr)(y9:Nat)(Dl:Option Addr)(xq:Nat)(w:World)(DA:dX T yi tK vN u9 yj tL vM uZ yh tJ w)(DB:dX T Dm xt zF za Dn xu zE y9 Dl xq w)(S:uT T):
  Calls Tryz.prog 11 #[.agg (bU T yi tK vN u9 yj tL vM uZ yh tJ),.agg (bU T Dm xt zF za Dn xu zE y9 Dl xq)] w (Gr.Is (.bool true) w):=by
 have b1:=boxed w (.cells (bU T yi tK vN u9 yj tL vM uZ yh tJ) 32);have b2:=boxed (w.alloc (.cells (bU T yi tK vN u9 yj tL vM uZ yh tJ) 32)) (.cells (bU T Dm xt zF za Dn xu zE y9 Dl xq) 32);have B2:=af (Gr.step b1 b2);have ZA:=af ((nJ (P:=T) (aR:=yi) (cR:=tK) (aW:=vN) (cW:=u9) (aX:=yj) (cX:=tL) (aG:=vM) (cG:=uZ) (aH:=yh) (cH:=tJ) w 32).went b2);have ZB:=af (nJ (P:=T) (aR:=Dm) (cR:=xt) (aW:=zF) (cW:=za) (aX:=Dn) (cX:=xu) (aG:=zE) (cG:=y9) (aH:=Dl) (cH:=xq) (w.alloc (.cells (bU T yi tK vN u9 yj tL vM uZ yh tJ) 32)) 32);have LA:=af (fun w1 (b:Below w.heap.size w w1)=>DA.went b);have LB:=af (fun w1 (b:Below w.heap.size w w1)=>DB.went b);have LR:=af (fun k (h:k<T.rules.length)=>S.rr _ (List.getElem_mem h));have LC:=af (fun k (h:k<T.rows.length)=>S.wr _ (List.getElem_mem h));have LG:=af (fun k (h:k<T.aj.length)=>S.gr _ (List.getElem_mem h));have s1:=S.rl;have s2:=S.wl;have s3:=S.gl;have s4:=S.zJ;have s5:=S.zh;clear b1 b2 DA DB S;obtain⟨z0,z1,z2,z3,z4,z5,z6⟩:=ZA.out;obtain⟨y0,y1,y2,y3,y4,y5,y6⟩:=ZB.out;rw[World.size_alloc]at ZB y0 y1 y2 y3 y4 y5 y6;unfold bU at*;go_enter Tryz.func11,Tryz.ntmps11;go_wp2_with fail;generalize (w.alloc (.cells #[.slice yi T.rules.length tK,.int .i64 T.terms,.int .i64 T.ah,.slice vN T.row.length u9,.slice yj T.rows.length tL,.slice vM T.bj.length uZ,.slice yh T.aj.length tJ] 32)).alloc (.cells #[.slice Dm T.rules.length xt,.int .i64 T.terms,.int .i64 T.ah,.slice zF T.row.length za,.slice Dn T.rows.length xu,.slice zE T.bj.length y9,.slice Dl T.aj.length xq] 32)=wa at*;have Qc:=af (fun w1 (b:Below w.heap.size w w1)=>(by have h:=Hq T.row T.row vN zF u9 za w1 (LA.out w1 b).row (LB.out w1 b).row (by omega) (by omega);rw[UB]at h;exact h));have Qd:=af (fun w1 (b:Below w.heap.size w w1)=>(by have h:=Hq T.bj T.bj vM zE uZ y9 w1 (LA.out w1 b).bj (LB.out w1 b).bj (by omega) (by omega);rw[UB]at h;exact h));refine(Qc.out _ B2.out).mono ?_;rintro e wb ⟨rfl,hb⟩;have ZA:=af (ZA.out.went hb);have ZB:=af (ZB.out.went hb);have B2:=af (Gr.step B2.out hb);clear hb Qc z0 z1 z2 z3 z4 z5 z6 y0 y1 y2 y3 y4 y5 y6;obtain⟨z0,z1,z2,z3,z4,z5,z6⟩:=ZA.out;obtain⟨y0,y1,y2,y3,y4,y5,y6⟩:=ZB.out;go_wp2_with fail;refine(Qd.out _ B2.out).mono ?_;rintro e w2 ⟨rfl,hb⟩;have ZA:=af (ZA.out.went hb);have ZB:=af (ZB.out.went hb);have B2:=af (Gr.step B2.out hb);clear hb Qd z0 z1 z2 z3 z4 z5 z6 y0 y1 y2 y3 y4 y5 y6;obtain⟨z0,z1,z2,z3,z4,z5,z6⟩:=ZA.out;obtain⟨y0,y1,y2,y3,y4,y5,y6⟩:=ZB.out;go_wp2_with fail;clear z0 z1 z2 z3 z4 z5 z6 y0 y1 y2 y3 y4 y5 y6;go_loopw [5] (fun v wr=>∃k:Nat,k<=T.rules.length/\v=.int .i64 k/\Below w2.heap.size w2 wr) (fun v _=>T.rules.length-(intOf v).toNat)
 case atStart=>exact⟨0,Nat.zero_le _,rfl,.refl _ _⟩
 case round=>
  obtain⟨k,hk,rfl,hW⟩:=hrel;have HW:=af hW;have C0:=af (hW);have BW:=af (Gr.step B2.out C0.out);obtain⟨z0,z1,z2,z3,z4,z5,z6⟩:=ZA.out.went C0.out;obtain⟨y0,y1,y2,y3,y4,y5,y6⟩:=ZB.out.went C0.out;clear hW
  by_cases hlt:k<T.rules.length
  ·have hil:(k:Int)<(T.rules.length:Int):=by omega
   obtain⟨ba,oa,ra,rc,ea,p0,p1,p2,p3⟩:=(LA.out wr BW.out).rules k hlt;obtain⟨bb,ob,rb,rd,eb,q0,q1,q2,q3⟩:=(LB.out wr BW.out).rules k hlt;have hrow:=LR.out k hlt;subst ea eb;have oN:=af p2;have jV:=af q2;clear p2 q2 p3 q3;generalize T.rules[k]=x at*;obtain⟨x1,xs⟩:=x;dsimp only at p0 p1 q0 q1 oN jV hrow;have SK:=af (fun w1 (b:Below wr.heap.size wr w1)=>(by have h:=UA (x1,xs) (x1,xs) ra rb rc rd w1 (Sep.Reads.below oN.out b (Nat.le_refl _)) (Sep.Reads.below jV.out b (Nat.le_refl _)) (by dsimp only;omega) (by dsimp only;omega);rw[zL3]at h;exact h));have HQ:=af (show∀w',Below wr.heap.size wr w'->w'.cell? ⟨w.heap.size,0,none⟩=some (.slice (some ⟨ba,oa,none⟩) T.rules.length tK)/\w'.cell? ⟨w.heap.size+1,0,none⟩=some (.slice (some ⟨bb,ob,none⟩) T.rules.length xt)/\w'.cell? ⟨ba,oa+k*2,none⟩=some (.int .i64 x1)/\w'.cell? ⟨ba,oa+k*2+1,none⟩=some (.slice ra xs.length rc)/\w'.cell? ⟨bb,ob+k*2,none⟩=some (.int .i64 x1)/\w'.cell? ⟨bb,ob+k*2+1,none⟩=some (.slice rb xs.length rd)/\Below wr.heap.size wr w' from fun w' hb=>⟨cell_later hb z0,cell_later hb y0,cell_later hb p0,cell_later hb p1,cell_later hb q0,cell_later hb q1,hb⟩);have gh:=drawn wr;go_wp2_with fail
   go_region_held3 (fun w'=>w'.cell? ⟨w.heap.size,0,none⟩=some (.slice (some ⟨ba,oa,none⟩) T.rules.length tK)/\w'.cell? ⟨w.heap.size+1,0,none⟩=some (.slice (some ⟨bb,ob,none⟩) T.rules.length xt)/\w'.cell? ⟨ba,oa+k*2,none⟩=some (.int .i64 x1)/\w'.cell? ⟨ba,oa+k*2+1,none⟩=some (.slice ra xs.length rc)/\w'.cell? ⟨bb,ob+k*2,none⟩=some (.int .i64 x1)/\w'.cell? ⟨bb,ob+k*2+1,none⟩=some (.slice rb xs.length rd)/\Below wr.heap.size wr w')
    (exact HQ.out _ (by with_reducible assumption))
    (first
     |(go_at_call 36;(with_reducible refine(SK.out _ (by with_reducible assumption)).mono ?_);rintro e wn ⟨rfl,hb⟩;have kB:Below wr.heap.size wr wn:=Gr.step (by with_reducible assumption) hb;clear hb)
     |fail)
   go_wp2_with fail;go_roundw
   case rel=>exact⟨k+1,by omega,by go_num,Gr.step HW.out (by with_reducible assumption)⟩
   case measure=>first|(simp[intOf];omega)|omega
  ·obtain rfl:k=T.rules.length:=by omega
   go_wp2_with fail;generalize wr=w3 at*;clear z0 z1 z2 z3 z4 z5 z6 y0 y1 y2 y3 y4 y5 y6 HW BW;go_loopw [6] (fun v wr=>∃k:Nat,k<=T.rows.length/\v=.int .i64 k/\Below w3.heap.size w3 wr) (fun v _=>T.rows.length-(intOf v).toNat)
   case atStart=>exact⟨0,Nat.zero_le _,rfl,.refl _ _⟩
   case round=>
    obtain⟨k,hk,rfl,hW⟩:=hrel;have HW:=af hW;have C1:=af (Gr.step C0.out hW);have BW:=af (Gr.step B2.out C1.out);obtain⟨z0,z1,z2,z3,z4,z5,z6⟩:=ZA.out.went C1.out;obtain⟨y0,y1,y2,y3,y4,y5,y6⟩:=ZB.out.went C1.out;clear hW
    by_cases hlt:k<T.rows.length
    ·have hil:(k:Int)<(T.rows.length:Int):=by omega
     obtain⟨ba,oa,ra,rc,ea,p1,p2,_,p3⟩:=(LA.out wr BW.out).rows k hlt;obtain⟨bb,ob,rb,rd,eb,q1,q2,_,q3⟩:=(LB.out wr BW.out).rows k hlt;have hrow:=LC.out k hlt;subst ea eb;have oN:=af p2;have jV:=af q2;clear p2 q2 p3 q3;generalize T.rows[k]=xs at*;have SK:=af (fun w1 (b:Below wr.heap.size wr w1)=>(by have h:=Uz xs xs ra rb rc rd w1 (oN.out.went b) (jV.out.went b) (by omega) (by omega);rw[show uN xs xs=true from decide_eq_true rfl]at h;exact h));have HQ:=af (show∀w',Below wr.heap.size wr w'->w'.cell? ⟨w.heap.size,4,none⟩=some (.slice (some ⟨ba,oa,none⟩) T.rows.length tL)/\w'.cell? ⟨w.heap.size+1,4,none⟩=some (.slice (some ⟨bb,ob,none⟩) T.rows.length xu)/\w'.cell? ⟨ba,oa+k,none⟩=some (.slice ra xs.length rc)/\w'.cell? ⟨bb,ob+k,none⟩=some (.slice rb xs.length rd)/\Below wr.heap.size wr w' from fun w' hb=>⟨cell_later hb z4,cell_later hb y4,cell_later hb p1,cell_later hb q1,hb⟩);have gh:=drawn wr;go_wp2_with fail
     go_region_held3 (fun w'=>w'.cell? ⟨w.heap.size,4,none⟩=some (.slice (some ⟨ba,oa,none⟩) T.rows.length tL)/\w'.cell? ⟨w.heap.size+1,4,none⟩=some (.slice (some ⟨bb,ob,none⟩) T.rows.length xu)/\w'.cell? ⟨ba,oa+k,none⟩=some (.slice ra xs.length rc)/\w'.cell? ⟨bb,ob+k,none⟩=some (.slice rb xs.length rd)/\Below wr.heap.size wr w')
      (exact HQ.out _ (by with_reducible assumption))
      (first
       |(go_at_call 37;(with_reducible refine(SK.out _ (by with_reducible assumption)).mono ?_);rintro e wn ⟨rfl,hb⟩;have kB:Below wr.heap.size wr wn:=Gr.step (by with_reducible assumption) hb;clear hb)
       |fail)
     go_wp2_with fail;go_roundw
     case rel=>exact⟨k+1,by omega,by go_num,Gr.step HW.out (by with_reducible assumption)⟩
     case measure=>first|(simp[intOf];omega)|omega
    ·obtain rfl:k=T.rows.length:=by omega
     go_wp2_with fail;generalize wr=w4 at*;clear z0 z1 z2 z3 z4 z5 z6 y0 y1 y2 y3 y4 y5 y6 HW BW;go_loopw [7] (fun v wr=>∃k:Nat,k<=T.aj.length/\v=.int .i64 k/\Below w4.heap.size w4 wr) (fun v _=>T.aj.length-(intOf v).toNat)
     case atStart=>exact⟨0,Nat.zero_le _,rfl,.refl _ _⟩
     case round=>
      obtain⟨k,hk,rfl,hW⟩:=hrel;have HW:=af hW;have C2:=af (Gr.step C1.out hW);have BW:=af (Gr.step B2.out C2.out);obtain⟨z0,z1,z2,z3,z4,z5,z6⟩:=ZA.out.went C2.out;obtain⟨y0,y1,y2,y3,y4,y5,y6⟩:=ZB.out.went C2.out;clear hW
      by_cases hlt:k<T.aj.length
      ·have hil:(k:Int)<(T.aj.length:Int):=by omega
       obtain⟨ba,oa,ra,rc,ea,p1,p2,_,p3⟩:=(LA.out wr BW.out).aj k hlt;obtain⟨bb,ob,rb,rd,eb,q1,q2,_,q3⟩:=(LB.out wr BW.out).aj k hlt;have hrow:=LG.out k hlt;subst ea eb;have oN:=af p2;have jV:=af q2;clear p2 q2 p3 q3;generalize T.aj[k]=xs at*;have SK:=af (fun w1 (b:Below wr.heap.size wr w1)=>(by have h:=Uz xs xs ra rb rc rd w1 (oN.out.went b) (jV.out.went b) (by omega) (by omega);rw[show uN xs xs=true from decide_eq_true rfl]at h;exact h));have HQ:=af (show∀w',Below wr.heap.size wr w'->w'.cell? ⟨w.heap.size,6,none⟩=some (.slice (some ⟨ba,oa,none⟩) T.aj.length tJ)/\w'.cell? ⟨w.heap.size+1,6,none⟩=some (.slice (some ⟨bb,ob,none⟩) T.aj.length xq)/\w'.cell? ⟨ba,oa+k,none⟩=some (.slice ra xs.length rc)/\w'.cell? ⟨bb,ob+k,none⟩=some (.slice rb xs.length rd)/\Below wr.heap.size wr w' from fun w' hb=>⟨cell_later hb z6,cell_later hb y6,cell_later hb p1,cell_later hb q1,hb⟩);have gh:=drawn wr;go_wp2_with fail
       go_region_held3 (fun w'=>w'.cell? ⟨w.heap.size,6,none⟩=some (.slice (some ⟨ba,oa,none⟩) T.aj.length tJ)/\w'.cell? ⟨w.heap.size+1,6,none⟩=some (.slice (some ⟨bb,ob,none⟩) T.aj.length xq)/\w'.cell? ⟨ba,oa+k,none⟩=some (.slice ra xs.length rc)/\w'.cell? ⟨bb,ob+k,none⟩=some (.slice rb xs.length rd)/\Below wr.heap.size wr w')
        (exact HQ.out _ (by with_reducible assumption))
        (first
         |(go_at_call 37;(with_reducible refine(SK.out _ (by with_reducible assumption)).mono ?_);rintro e wn ⟨rfl,hb⟩;have kB:Below wr.heap.size wr wn:=Gr.step (by with_reducible assumption) hb;clear hb)
         |fail)
       go_wp2_with fail;go_roundw
       case rel=>exact⟨k+1,by omega,by go_num,Gr.step HW.out (by with_reducible assumption)⟩
       case measure=>first|(simp[intOf];omega)|omega
      ·obtain rfl:k=T.aj.length:=by omega
       go_wp2_with fail;go_ret;exact⟨rfl,BW.out⟩
