/- A part of the proof. -/
import Derived.Deep.OwnRows
import Derived.Test.YtegeamggbglneaaGreatDoorPk13
set_option maxHeartbeats 8000000
set_option maxRecDepth 100000
set_option linter.unusedVariables false
namespace Go.Proofs.YtegeamggbglneaaGreatDoor
open Go.RowKit Go.Maps
namespace Pk
abbrev Kx:=Nat×ByteArray
def KOk(p:Kx):Prop:=(Lit.int .i64 (p.1:Int)).wf=true/\p.2.size<=maxLen
def kv(p:Kx):Value:=.agg #[.int .i64 (p.1:Int),.string p.2]
def kk(p:Kx):Lit:=.string (keyBytes [.int .i64 (p.1:Int),.string p.2.data.toList])
theorem zUn{x y}(hx:KOk x)(hy:KOk y)(h:kk x=kk y):x=y:=by
 unfold kk at h;simp only[Lit.string.injEq]at h
 have:=keyBytes_inj (l:=[.int .i64 (x.1:Int),.string x.2.data.toList]) (l':=[.int .i64 (y.1:Int),.string y.2.data.toList]) (by simp[Alike,Lit.sameKind])
  (fun a ha=>by
   simp only[List.mem_cons,List.not_mem_nil,or_false]at ha;rcases ha with rfl|rfl
   ·exact hx.1
   ·have:=hx.2;simp only[Lit.keyWf]
    simpa[maxLen]using this)
  (fun a ha=>by
   simp only[List.mem_cons,List.not_mem_nil,or_false]at ha;rcases ha with rfl|rfl
   ·exact hy.1
   ·have:=hy.2;simp only[Lit.keyWf]
    simpa[maxLen]using this) h
 simp only[List.cons.injEq,Lit.int.injEq,Lit.string.injEq,true_and,and_true]at this;obtain⟨h1,h2⟩:=this;obtain⟨a,b⟩:=x;obtain⟨a',b'⟩:=y;dsimp only at h1 h2;have e1:a=a':=by omega
 have e2:b=b':=by
  cases b;cases b';simp only[ByteArray.mk.injEq];exact Array.toList_inj.1 h2
 rw[e1,e2]
structure Kr (P:Program) (K:TypeId):Prop where
 law:Keyed P K
 key:∀x,KOk x->keyOf P K (kv x)=some (kk x)
theorem zVl{P}{K}(fa fb)(law:Keyed P K)(hu:P.underlying K=some (.struct #[fa,fb]))(ha:P.underlying fa.type=some (.int .i64))(hb:P.underlying fb.type=some .string)
  (hkt:P.keyType K=true) (hcells:P.cellsOf K=2) (ca:P.cellsOf fa.type=1) (cb:P.cellsOf fb.type=1) (oa:fa.offset=0) (ob:fb.offset=1)
  (na:(fa.name != "_")=true) (nb:(fb.name != "_")=true) (n) (hn:P.types.size=n+1):Kr P K:=by
 refine⟨law,fun x hx=>?_⟩;unfold keyOf kv;rw[hu];simp only[hkt,Bool.true_and];rw[if_pos (by simp[Value.formed,hu,hcells])];rw[hn];have h2:=hx.2;simp[Program.keyLits,hu,hcells,ca,cb,oa,ob,ha,hb,na,nb,hx.1,h2,Value.cells,kk]
section
variable {P:Program} {K T E:TypeId}
def RMap(P:Program)(K E:TypeId)(b n:Nat)(X:Kx->Option Int)(w:World):Prop:=
 ∃D:DataW Unit,w.ownsMap P K (plainElem P E) b n D/\∀x,KOk x->has D (kk x)=(X x).isSome/\D.atKey (kk x) (.lit (.int .i64 0))=.lit (.int .i64 ((X x).getD 0))
theorem RMap.made(w:World)(P)(K E):RMap P K E w.heap.size 0 (fun _=>none) (w.alloc (.map #[] 0)):=
 ⟨_,World.ownsMap_made w P K _,fun x _=>⟨rfl,rfl⟩⟩
theorem RMap.lt{b n}{X}{w}(h:RMap P K E b n X w):b<w.heap.size:=by
 obtain⟨D,h,_⟩:=h;exact h.lt
theorem RMap.keep{b n}{X}{w w'}(h:RMap P K E b n X w)(hb:w'.heap[b]?=w.heap[b]?):RMap P K E b n X w':=by
 obtain⟨D,h,k⟩:=h;exact⟨D,Sep.ownsMap_at h hb,k⟩
theorem RMap.store{b n}{X}{w}(h:RMap P K E b n X w)(k:Kr P K)(ht:P.underlying T=some (.map K E))(he:P.underlying E=some (.int .i64))(hn:n<maxLen){x}(hx:KOk x){t}(hw:(Lit.int .i64 t).wf=true):
  ∃w',(Instr.mapUpdate T (.map (some b)) (kv x) (.int .i64 t)).run P w=.ok () w'/\RMap P K E b (n+1) (fun y=>if y=x then some t else X y) w'/\w.mapTurned w' b:=by
 obtain⟨D,ho,kd⟩:=h;obtain⟨w',hrun,h1,h2⟩:=ho.store k.law ht hn (k.key x hx) (plainElem_int he hw);refine⟨w',hrun,⟨_,h1,fun y hy=>?_⟩,h2⟩
 by_cases e:y=x
 ·subst e;show _=(if y=y then some t else X y).isSome/\_=DataW.lit (Lit.int .i64 ((if y=y then some t else X y).getD 0));rw[if_pos rfl,has_put_same ho.isMap (k.law.key (k.key y hy)),atKey_put_same ho.isMap (k.law.key (k.key y hy))];exact⟨rfl,rfl⟩
 ·have hne:kk y≠kk x:=fun q=>e (zUn hy hx q)
  show _=(if y=x then some t else X y).isSome/\_=DataW.lit (Lit.int .i64 ((if y=x then some t else X y).getD 0));rw[if_neg e,has_put_other hne,atKey_put_other hne];exact kd y hy
theorem RMap.look{b n}{X}{w}(h:RMap P K E b n X w)(k:Kr P K)(ht:P.underlying T=some (.map K E))(he:P.underlying E=some (.int .i64))(hz:(zeroValue E).run P w=.ok (.int .i64 0) w){x}(hx:KOk x):
  (Instr.lookup T (.map (some b)) (kv x) true).run P w=.ok (.tuple #[.int .i64 ((X x).getD 0),.bool (X x).isSome]) w:=by
 obtain⟨D,ho,kd⟩:=h;have hzd:plainElem (H:=Unit) P E (.int .i64 0)=some (.lit (.int .i64 0),[]):=plainElem_int he (by decide);obtain⟨v,ps,hrun,hR⟩:=ho.look_ok k.law ht hz hzd (k.key x hx);rw[(kd x hx).2]at hR;rw[(kd x hx).1]at hrun
 have hv:v=.int .i64 ((X x).getD 0):=by
  unfold plainElem at hR;rw[he]at hR;cases v<;>simp at hR
  simp_all
 rw[hrun,hv]
end
def tx(r:List Int):ByteArray:=strOfNums (txt r)
def CdR(r:List Int):Prop:=(∀c∈r,Cd c)/\r.length<=100000
theorem zRy{r s}(hr:CdR r)(hs:CdR s)(h:tx r=tx s):r=s:=by
 have h':(strOfNums (txt r)).data.toList=(strOfNums (txt s)).data.toList:=by unfold tx at h;rw[h]
 rw[strOfNums_data,strOfNums_data]at h';exact zTy (Au.bytes_inj (zKq hr.1) (zKq hs.1) h')
theorem zV4{r}(h:CdR r)(k)(hk:k<=1):KOk (k,tx r):=by
 refine⟨?_,?_⟩
 ·show(Lit.int .i64 (k:Int)).wf=true;rcases(by omega:k=0\/k=1)with rfl|rfl<;>decide
 ·unfold tx;rw[strOfNums_size,zEP];have:=h.2;unfold maxLen;omega
def numL(L:List (List Int))(r:List Int):Option Int:=if r∈L then some (L.idxOf r:Int)else none
def Told(L0 L1:List (List Int))(X:Kx->Option Int):Prop:=∀r,CdR r->X (0,tx r)=numL L0 r/\X (1,tx r)=numL L1 r
theorem told_none:Told [] [] (fun _=>none):=fun r _=>⟨rfl,rfl⟩
theorem zIE{L}{r}(h:r∉L)(y):numL (L++[r]) y=if y=r then some (L.length:Int)else numL L y:=by
 unfold numL
 by_cases e:y=r
 ·subst e;rw[if_pos (List.mem_append_right _ (List.mem_singleton.2 rfl)),if_pos rfl,List.idxOf_append,if_neg h];simp
 ·rw[if_neg e]
  by_cases hy:y∈L
  ·rw[if_pos (List.mem_append_left _ hy),if_pos hy,List.idxOf_append,if_pos hy]
  ·rw[if_neg hy,if_neg];rw[List.mem_append,List.mem_singleton];exact fun q=>q.elim hy e
theorem Told.put0{L0 L1}{X}(h:Told L0 L1 X){r}(hr:CdR r)(hn:r∉L0):Told (L0++[r]) L1 (fun y=>if y=(0,tx r)then some (L0.length:Int)else X y):=fun s hs=>by
 constructor
 ·rw[zIE hn];show(if((0,tx s):Kx)=(0,tx r)then some _ else _)= _
  by_cases e:s=r
  ·subst e;rw[if_pos rfl,if_pos rfl]
  ·rw[if_neg (fun q:((0,tx s):Kx)=(0,tx r)=>e (zRy hs hr (congrArg Prod.snd q))),if_neg e];exact(h s hs).1
 ·show(if((1,tx s):Kx)=(0,tx r)then _ else _)= _;rw[if_neg (fun q=>absurd (Prod.mk.inj q).1 (by decide))];exact(h s hs).2
theorem Told.put1{L0 L1}{X}(h:Told L0 L1 X){r}(hr:CdR r)(hn:r∉L1):Told L0 (L1++[r]) (fun y=>if y=(1,tx r)then some (L1.length:Int)else X y):=fun s hs=>by
 constructor
 ·show(if((0,tx s):Kx)=(1,tx r)then _ else _)= _;rw[if_neg (fun q=>absurd (Prod.mk.inj q).1 (by decide))];exact(h s hs).1
 ·rw[zIE hn];show(if((1,tx s):Kx)=(1,tx r)then some _ else _)= _
  by_cases e:s=r
  ·subst e;rw[if_pos rfl,if_pos rfl]
  ·rw[if_neg (fun q:((1,tx s):Kx)=(1,tx r)=>e (zRy hs hr (congrArg Prod.snd q))),if_neg e];exact(h s hs).2
end Pk
namespace Pk
open Gr (cell_later boxed zA0)
open Im (ItsA)
def Fl(b:Nat)(T:TypeId)(cs:List Value)(n:Nat)(w:World):Prop:=∃cur,w.heap[b]?=some (.cells cur T (0,0))/\cur.size=cs.length/\∀j,j<n->cur[j]?=cs[j]?
section
variable {b n:Nat} {T:TypeId} {cs:List Value} {w w':World}
theorem Fl.has(h:Fl b T cs n w){j}(hj:j<cs.length):∃u,w.cell? ⟨b,j,none⟩=some u:=by
 obtain⟨cur,h1,h2,h3⟩:=h;exact⟨_,zAA h1 (k:=j) (by omega)⟩
theorem Fl.free(h:Fl b T cs n w)(j):w.frozen? ⟨b,j,none⟩=false:=by
 obtain⟨cur,h1,h2,h3⟩:=h;exact zAM h1
theorem Fl.lt(h:Fl b T cs n w):b<w.heap.size:=by
 obtain⟨cur,h1,h2,h3⟩:=h;exact(Array.getElem?_eq_some_iff.1 h1).1
theorem Fl.went(h:Fl b T cs n w)(hb:Below w.heap.size w w'):Fl b T cs n w':=by
 obtain⟨cur,h1,h2⟩:=h;exact⟨cur,(hb.block b (Array.getElem?_eq_some_iff.1 h1).1).trans h1,h2⟩
theorem Fl.put(h:Fl b T cs n w){u}(hu:cs[n]?=some u):Fl b T cs (n+1) (w.setCell ⟨b,n,none⟩ u):=by
 have hn:n<cs.length:=(List.getElem?_eq_some_iff.1 hu).1;obtain⟨cur,h1,h2,h3⟩:=h;refine⟨_,zAU h1 _,by simp[h2],fun j hj=>?_⟩
 by_cases e:j=n
 ·subst e;rw[Array.getElem?_setIfInBounds_self_of_lt (by omega),hu]
 ·rw[Array.getElem?_setIfInBounds_ne (fun e2=>e e2.symm)];exact h3 j (by omega)
theorem Fl.all(h:Fl b T cs cs.length w):w.heap[b]?=some (.cells cs.toArray T (0,0)):=by
 obtain⟨cur,h1,h2,h3⟩:=h;rw[h1]
 congr 2
 apply Array.ext
 ·rw[h2];simp
 ·intro i hi hi2;have e:=h3 i (by omega);rw[Array.getElem?_eq_getElem hi,List.getElem?_eq_getElem (by omega)]at e
  simpa using Option.some.inj e
end
theorem Fl.made(w:World)(T)(c cs':List Value)(o)(ho:o.size=cs'.length):Fl w.heap.size T cs' 0 (w.alloc (.cells o T)):=⟨o,zAd _ _,ho,fun j hj=>absurd hj (Nat.not_lt_zero j)⟩
def NewL(T:TypeId)(n:Nat)(cs:List Value)(w:World)(e:Ending)(w':World):Prop:=
 ∃b,e=.returned (.slice (some ⟨b,0,none⟩) n n)/\w.heap.size<=b/\w'.heap[b]?=some (.cells cs.toArray T (0,0))/\Below w.heap.size w w'
theorem zSv{w:World}{b}{cs:List Value}{T}(h:w.heap[b]?=some (.cells cs.toArray T (0,0))){j}{u}(hu:cs[j]?=some u):w.cell? ⟨b,j,none⟩=some u:=by
 obtain⟨hj,e⟩:=List.getElem?_eq_some_iff.1 hu;rw[zAA h (k:=j) (by simpa using hj)];simp[e]
theorem zBq{w}{b}{cs}{T}(h:w.heap[b]?=some (.cells cs.toArray T (0,0))):Sep.Reads (some ⟨b,0,none⟩) cs w:=fun i hi=>⟨b,0,rfl,by rw[Nat.zero_add];exact zSv h (List.getElem?_eq_getElem hi)⟩
theorem zJ9:(Tryz.prog.info? 48).map (fun i=>(i.zero,i.size,i.bytes))=some (some (.int .u16 0),1,2):=by kernel_rfl
theorem zKJ(n:Nat)(hn:n<=100000)(w):
  (Instr.makeSlice 66 (.int .i64 (n:Int)) (.int .i64 (n:Int))).run Tryz.prog w=.ok (.slice (some ⟨w.heap.size,0,none⟩) n n) (w.alloc (.cells (madeCells #[.int .u16 0] n) 48)):=
 run_make_row' 66 48 (.int .u16 0) 2 Tryz.underlying66 zJ9 rfl .i64 .i64 n (by omega) (by omega) w
theorem zFR(n:Nat)(hn:n<=100000)(w):
  (Instr.makeSlice 29 (.int .i64 (n:Int)) (.int .i64 (n:Int))).run Tryz.prog w=.ok (.slice (some ⟨w.heap.size,0,none⟩) n n) (w.alloc (.cells (madeCells #[.int .i64 0] n) 3)):=
 run_make_row' 29 3 (.int .i64 0) 8 Tryz.underlying29 zA0 rfl .i64 .i64 n (by omega) (by omega) w
theorem zHu(L:List (Int×Int))(a:Option Addr)(c:Nat)(w:World)(h:ItsA a L w)(hl:L.length<=100000)(hp:∀x∈L,0<=x.1/\x.1<=3/\0<=x.2/\x.2<16384):
  Calls Tryz.prog 29 #[.slice a L.length c,.func (.func 30) #[] #[]] w (NewL 48 L.length (L.map fun x=>Value.int .u16 (zAw x)) w):=by
 have hmk:=fun w=>zKJ L.length hl w
 have B1:=zV7 (boxed w (.cells (madeCells #[.int .u16 0] L.length) 48));have F0:=zV7 (show Fl w.heap.size 48 (L.map fun x=>Value.int .u16 (zAw x)) 0 (w.alloc (.cells (madeCells #[.int .u16 0] L.length) 48))from Fl.made _ _ [] _ _ (by rw[size_madeCells];simp));have HR:=zV7 (fun w1 (b:Below w.heap.size w w1)=>h.went b);have HP:=zV7 hp;have HC:=zV7 (fun k (hk:k<L.length)=>(show(L.map fun x=>Value.int .u16 (zAw x))[k]?=some (Value.int .u16 (zAw L[k]))from by simp[hk]));have HE:=zV7 (show(L.map fun x=>Value.int .u16 (zAw x)).length=L.length by simp);clear hp h;generalize (L.map fun x=>Value.int .u16 (zAw x))=cs at*;go_enter Tryz.func29,Tryz.ntmps29;go_wp2_with fail;generalize hw2:w.alloc (.cells (madeCells #[.int .u16 0] L.length) 48)=w2 at*;clear hw2 hmk;go_loopw [13] (fun v wr=>∃k:Nat,v=.int .i64 (k:Int)/\k<=L.length/\Fl w.heap.size 48 cs k wr/\Sep.Fr (fun x=>x=w.heap.size) w2 wr) (fun v _=>L.length-(intOf v).toNat)
 case atStart=>exact⟨0,rfl,Nat.zero_le _,F0.out,.refl _ _⟩
 case round=>
  obtain⟨k,rfl,hk,hF,hf⟩:=hrel;have FF:=zV7 hF;have BR:=zV7 (B1.out.trans (hf.below (m:=w.heap.size) (fun x hx=>by omega) B1.out.size));have FR:=zV7 hf;clear hF hf
  by_cases hlt:k<L.length
  ·obtain⟨rb,ro,rfl,p0,p1⟩:=(HR.out wr BR.out).at k hlt;have HCk:=zV7 (HC.out k hlt);have hx:=HP.out _ (List.getElem_mem hlt);generalize L[k]=x at*;have CA:=zV7 (fun w1=>zE2 x hx w1);have hkn:(k:Int)<(L.length:Int):=by omega
   obtain⟨u,hu⟩:=FF.out.has (show k<cs.length by rw[HE.out];exact hlt);have hpw:w.heap.size<wr.heap.size:=FF.out.lt;have ff:=FF.out.free k;obtain⟨x1,x2⟩:=x;dsimp only at p0 p1;generalize zAw (x1,x2)=z at*;have bb:=boxed wr (.cells #[.int .i64 x1,.int .i64 x2] 57);have FB:=zV7 (FF.out.went bb);have RB:=zV7 (FR.out.trans (.of_below bb) (fun x hx=> .inl hx));have hub:=cell_later bb hu;have fb:=FB.out.free k;clear hu ff bb;go_wp2_with (go_at_call 30;refine(CA.out _).mono ?_;rintro e w3 ⟨rfl,hb3⟩;have F3:=zV7 (FB.out.went hb3);have R3:=zV7 (RB.out.trans (.of_below hb3) (fun x hx=> .inl hx));have hu3:=cell_later hb3 hub;have f4:=F3.out.free k;clear hb3);have F4:=zV7 (F3.out.put HCk.out);have R4:=zV7 (R3.out.setCell ⟨w.heap.size,k,none⟩ rfl (Value.int .u16 z));go_roundw
   case rel=>exact⟨k+1,by go_num,by omega,F4.out,R4.out⟩
   case measure=>first|(simp[intOf];omega)|omega
  ·obtain rfl:k=L.length:=by omega
   have FE:=zV7 (show Fl w.heap.size 48 cs cs.length wr by rw[HE.out];exact FF.out);go_wp2;go_ret;exact⟨w.heap.size,rfl,Nat.le_refl _,FE.out.all,BR.out⟩
theorem zGr(L:List (Int))(a:Option Addr)(c:Nat)(w:World)(h:IntA a L w)(hl:L.length<=100000)(hp:∀x∈L, -1<=x/\x<65535):
  Calls Tryz.prog 31 #[.slice a L.length c,.func (.func 32) #[] #[]] w (NewL 48 L.length (L.map fun x=>Value.int .u16 (zBF x)) w):=by
 have hmk:=fun w=>zKJ L.length hl w
 have B1:=zV7 (boxed w (.cells (madeCells #[.int .u16 0] L.length) 48));have F0:=zV7 (show Fl w.heap.size 48 (L.map fun x=>Value.int .u16 (zBF x)) 0 (w.alloc (.cells (madeCells #[.int .u16 0] L.length) 48))from Fl.made _ _ [] _ _ (by rw[size_madeCells];simp));have HR:=zV7 (fun w1 (b:Below w.heap.size w w1)=>h.went b);have HP:=zV7 hp;have HC:=zV7 (fun k (hk:k<L.length)=>(show(L.map fun x=>Value.int .u16 (zBF x))[k]?=some (Value.int .u16 (zBF L[k]))from by simp[hk]));have HE:=zV7 (show(L.map fun x=>Value.int .u16 (zBF x)).length=L.length by simp);clear hp h;generalize (L.map fun x=>Value.int .u16 (zBF x))=cs at*;go_enter Tryz.func31,Tryz.ntmps31;go_wp2_with fail;generalize hw2:w.alloc (.cells (madeCells #[.int .u16 0] L.length) 48)=w2 at*;clear hw2 hmk;go_loopw [13] (fun v wr=>∃k:Nat,v=.int .i64 (k:Int)/\k<=L.length/\Fl w.heap.size 48 cs k wr/\Sep.Fr (fun x=>x=w.heap.size) w2 wr) (fun v _=>L.length-(intOf v).toNat)
 case atStart=>exact⟨0,rfl,Nat.zero_le _,F0.out,.refl _ _⟩
 case round=>
  obtain⟨k,rfl,hk,hF,hf⟩:=hrel;have FF:=zV7 hF;have BR:=zV7 (B1.out.trans (hf.below (m:=w.heap.size) (fun x hx=>by omega) B1.out.size));have FR:=zV7 hf;clear hF hf
  by_cases hlt:k<L.length
  ·obtain⟨rb,ro,rfl,p0⟩:=(HR.out wr BR.out).at hlt;have HCk:=zV7 (HC.out k hlt);have hx:=HP.out _ (List.getElem_mem hlt);generalize L[k]=x at*;have CA:=zV7 (fun w1=>zH1 x hx w1);have hkn:(k:Int)<(L.length:Int):=by omega
   obtain⟨u,hu⟩:=FF.out.has (show k<cs.length by rw[HE.out];exact hlt);have hpw:w.heap.size<wr.heap.size:=FF.out.lt;have ff:=FF.out.free k;generalize zBF x=z at*;go_wp2_with (go_at_call 32;refine(CA.out _).mono ?_;rintro e w3 ⟨rfl,rfl⟩;have F3:=FF;have R3:=FR);have F4:=zV7 (F3.out.put HCk.out);have R4:=zV7 (R3.out.setCell ⟨w.heap.size,k,none⟩ rfl (Value.int .u16 z));go_roundw
   case rel=>exact⟨k+1,by go_num,by omega,F4.out,R4.out⟩
   case measure=>first|(simp[intOf];omega)|omega
  ·obtain rfl:k=L.length:=by omega
   have FE:=zV7 (show Fl w.heap.size 48 cs cs.length wr by rw[HE.out];exact FF.out);go_wp2;go_ret;exact⟨w.heap.size,rfl,Nat.le_refl _,FE.out.all,BR.out⟩
theorem zIy(L:List (Int))(a:Option Addr)(c:Nat)(w:World)(h:CodA a L w)(hl:L.length<=100000)(hp:∀x∈L,Cd x):
  Calls Tryz.prog 44 #[.slice a L.length c,.func (.func 45) #[] #[]] w (NewL 3 L.length (L.map fun x=>Value.int .i64 (toOf x)) w):=by
 have hmk:=fun w=>zFR L.length hl w
 have B1:=zV7 (boxed w (.cells (madeCells #[.int .i64 0] L.length) 3));have F0:=zV7 (show Fl w.heap.size 3 (L.map fun x=>Value.int .i64 (toOf x)) 0 (w.alloc (.cells (madeCells #[.int .i64 0] L.length) 3))from Fl.made _ _ [] _ _ (by rw[size_madeCells];simp));have HR:=zV7 (fun w1 (b:Below w.heap.size w w1)=>h.went b);have HP:=zV7 hp;have HC:=zV7 (fun k (hk:k<L.length)=>(show(L.map fun x=>Value.int .i64 (toOf x))[k]?=some (Value.int .i64 (toOf L[k]))from by simp[hk]));have HE:=zV7 (show(L.map fun x=>Value.int .i64 (toOf x)).length=L.length by simp);clear hp h;generalize (L.map fun x=>Value.int .i64 (toOf x))=cs at*;go_enter Tryz.func44,Tryz.ntmps44;go_wp2_with fail;generalize hw2:w.alloc (.cells (madeCells #[.int .i64 0] L.length) 3)=w2 at*;clear hw2 hmk;go_loopw [13] (fun v wr=>∃k:Nat,v=.int .i64 (k:Int)/\k<=L.length/\Fl w.heap.size 3 cs k wr/\Sep.Fr (fun x=>x=w.heap.size) w2 wr) (fun v _=>L.length-(intOf v).toNat)
 case atStart=>exact⟨0,rfl,Nat.zero_le _,F0.out,.refl _ _⟩
 case round=>
  obtain⟨k,rfl,hk,hF,hf⟩:=hrel;have FF:=zV7 hF;have BR:=zV7 (B1.out.trans (hf.below (m:=w.heap.size) (fun x hx=>by omega) B1.out.size));have FR:=zV7 hf;clear hF hf
  by_cases hlt:k<L.length
  ·obtain⟨rb,ro,rfl,p0⟩:=(HR.out wr BR.out).at hlt;have HCk:=zV7 (HC.out k hlt);have hx:=HP.out _ (List.getElem_mem hlt);generalize L[k]=x at*;have CA:=zV7 (fun w1=>zEO x hx w1);have hkn:(k:Int)<(L.length:Int):=by omega
   obtain⟨u,hu⟩:=FF.out.has (show k<cs.length by rw[HE.out];exact hlt);have hpw:w.heap.size<wr.heap.size:=FF.out.lt;have ff:=FF.out.free k;generalize toOf x=z at*;go_wp2_with (go_at_call 45;refine(CA.out _).mono ?_;rintro e w3 ⟨rfl,rfl⟩;have F3:=FF;have R3:=FR);have F4:=zV7 (F3.out.put HCk.out);have R4:=zV7 (R3.out.setCell ⟨w.heap.size,k,none⟩ rfl (Value.int .i64 z));go_roundw
   case rel=>exact⟨k+1,by go_num,by omega,F4.out,R4.out⟩
   case measure=>first|(simp[intOf];omega)|omega
  ·obtain rfl:k=L.length:=by omega
   have FE:=zV7 (show Fl w.heap.size 3 cs cs.length wr by rw[HE.out];exact FF.out);go_wp2;go_ret;exact⟨w.heap.size,rfl,Nat.le_refl _,FE.out.all,BR.out⟩
end Pk
namespace Pk
open Gr (boxed zAC)
open Au (zCB bvs zDl zA5 zD9)
theorem zLV(n:Nat)(hn:n<=100000)(w):
  (Instr.makeSlice 39 (.int .i64 0) (.int .i64 (2*(n:Int)))).run Tryz.prog w=.ok (.slice (some ⟨w.heap.size,0,none⟩) 0 (2*n)) (w.alloc (.cells (madeCells #[.int .u8 0] (2*n)) 5)):=by
 obtain⟨i0,hi,hz0,hz1,hz2⟩:=info_parts zDl;have hr:=run_make (P:=Tryz.prog) w 39 5 i0 (.int .u8 0) Tryz.underlying39 hi hz0 .i64 .i64 0 (2*(n:Int)) (by omega) (by omega) (by rw[hz2];omega) (by omega);rw[show(2*(n:Int)).toNat=2*n by omega]at hr;rw[hr,hz1];simp
 rfl
theorem zTx(w:World)(n)(hn:n=w.heap.size)(x y)(t):∀j u,[x,y][j]?=some u->(w.alloc (.cells #[x,y] t)).cell? ((⟨n,0,none⟩:Addr).add j)=some u:=by
 intro j u hj;subst hn;rw[WideShapes.add_plain]
 match j,hj with
 |0,hj=>exact zAC rfl (by simpa using hj)
 |1,hj=>exact zAC rfl (by simpa using hj)
theorem zK4{base}{r:List Int}{v}{w}{k}(hk){p q}(e:p=r[k] / 256/\q=r[k] % 256){n}(hn:n=(txt (r.take k)).length+2)(h:w.ownsRow base 5 1 v n (bvs (txt (r.take k))++[.int .u8 p,.int .u8 q])):zCB base (txt (r.take (k+1))) v w:=by
 subst hn;obtain⟨rfl,rfl⟩:=e;unfold zCB;rw[zRS hk,zD9,List.length_append];exact h
theorem zRP(r:List Int)(a:Option Addr)(c:Nat)(w:World)(h:CodA a r w)(hr:CdR r):
  Calls Tryz.prog 76 #[.slice a r.length c] w (Gr.Is (.string (tx r)) w):=by
 obtain⟨i0,hi,hz0,hz1,hz2⟩:=info_parts zDl;have hmk:=fun w=>zLV r.length hr.2 w
 have hl:=hr.2;have HR:=zV7 (fun w1 (b:Below w.heap.size w w1)=>h.went b);have HP:=zV7 hr.1;have B1:=zV7 (boxed w (.cells (madeCells #[.int .u8 0] (2*r.length)) 5));have R0:=zV7 (show zCB w.heap.size (txt (r.take 0)) (.slice (some ⟨w.heap.size,0,none⟩) 0 (2*r.length)) (w.alloc (.cells (madeCells #[.int .u8 0] (2*r.length)) 5))from World.ownsRow_made w _ _ (Nat.le_refl _) (by unfold maxLen;omega) (by rw[size_madeCells];omega));have hw2:IntKind.i64.wrap (2*(r.length:Int))=2*(r.length:Int):=by rw[IntKind.wrap_i64];omega
 clear h hr;go_enter Tryz.func76,Tryz.ntmps76;go_wp2_with fail;generalize hq:w.alloc (.cells (madeCells #[.int .u8 0] (2*r.length)) 5)=w2 at*;clear hq hmk;go_loopw [3,12] (fun v i wr=>∃j:Nat,j<=r.length/\i=.int .i64 (j:Int)/\zCB w.heap.size (txt (r.take j)) v wr/\Below w.heap.size w wr) (fun _ i _=>r.length-(intOf i).toNat)
 case atStart=>exact⟨0,Nat.zero_le _,rfl,R0.out,B1.out⟩
 case round=>
  obtain⟨j,hj,rfl,hB,hW⟩:=hrel;obtain⟨av,cv,rfl⟩:=hB.shape
  by_cases hlt:j<r.length
  ·obtain⟨b,o,rfl,c0⟩:=(HR.out wr hW).at hlt;have hx:=HP.out _ (List.getElem_mem hlt);have HM:=zV7 (fun(v:Value) (w':World) (n:Nat) (p q:Int) e hn h=>zK4 (base:=w.heap.size) (v:=v) (w:=w') hlt (p:=p) (q:=q) (n:=n) e hn h)
   have hl2:(txt (r.take j)).length<=200000:=by
    rw[zEP,List.length_take];omega
   have B:=zV7 hB;have W:=zV7 hW;clear hB hW;generalize r[j]=x at*;unfold Cd at hx;obtain⟨n,rfl⟩:∃n:Nat,x=(n:Int):=⟨x.toNat,by omega⟩;have hjl:(j:Int)<(r.length:Int):=by omega
   generalize txt (r.take j)=X at B HM hl2;have HB2:=zV7 (Gr.step W.out (boxed wr (.cells #[.int .u8 ((n:Int) / 256),.int .u8 ((n:Int) % 256)] 5)));have RB:=zV7 (B.out.went (boxed wr (.cells #[.int .u8 ((n:Int) / 256),.int .u8 ((n:Int) % 256)] 5)));have NW:=zV7 (zTx wr wr.heap.size rfl (.int .u8 ((n:Int) / 256)) (.int .u8 ((n:Int) % 256)) 5);have hsz:=HB2.out.size;have HBL:=zV7 (show∀g,(Value.slice av X.length cv).ownBlock=some g->w.heap.size<=g from fun g hg=>(World.ownsRow.lt B.out g hg).1);clear B W;have hx2:=hx.2;go_wp2_with (at_builtin;refine wpList_append_own_at _ rfl _ _ 39 rfl w.heap.size 5 i0 (.int .u8 0) 1 1 Tryz.underlying39 hi hz0 hz1 hz2 rfl (by decide) _ _ _ rfl RB.out ⟨wr.heap.size,0,none⟩ 2 2 [.int .u8 ((n:Int) / 256),.int .u8 ((n:Int) % 256)] rfl rfl NW.out (by simp[Value.oneCell']) (by unfold maxLen;omega) (by omega) hsz ?_;intro v' w' hown hg _ _;have HO:=zV7 hown;have HG:=zV7 (HB2.out.trans (zA5 hg hsz HBL.out));clear hown hg);go_roundw
   case rel=>exact⟨j+1,by omega,by go_num,HM.out _ _ _ _ _ ⟨rfl,rfl⟩ rfl HO.out,HG.out⟩
   case measure=>simp[intOf];omega
  ·have hE:j=r.length:=by omega
   subst hE;rw[List.take_length]at hB;rw[List.take_length];have T:=hB.text;have HK:=zV7 (show strOfNums (txt r)=tx r from rfl);generalize txt r=X at*;generalize strOfNums X=s at*;go_wp2;have e:=HK.out;subst e;go_ret;exact⟨rfl,hW⟩
end Pk
namespace Pk
open Gr (boxed drawn zAC)
theorem zVp:laidOutB Tryz.prog=true:=by kernel_rfl
theorem rowK:123<Tryz.prog.types.size:=of_decide_eq_true (by kernel_rfl)
theorem zVx:1<=Tryz.prog.types.size:=of_decide_eq_true (by kernel_rfl)
theorem lawK:Keyed Tryz.prog 123:=.of_law (deep_law_laid zVp (m:=2) (by omega) rowK (by kernel_rfl) (by rw[Tryz.underlying123]))
theorem krK:Kr Tryz.prog 123:=
 zVl _ _ lawK Tryz.underlying123 Tryz.underlying3 Tryz.underlying9 (by kernel_rfl) (by kernel_rfl) (by kernel_rfl) (by kernel_rfl) rfl rfl (by decide) (by decide) (Tryz.prog.types.size-1) (by have:=zVx;omega)
theorem zV6(w):(zeroValue 3).run Tryz.prog w=.ok (.int .i64 0) w:=by kernel_rfl
theorem zDn:(Tryz.prog.info? 66).map (fun i=>(i.zero,i.size,i.bytes))=some (some (.slice none 0 0),1,24):=by kernel_rfl
abbrev RM:=RMap Tryz.prog 123 3
structure StAt (lo ps bm:Nat) (L:Nat->List (List Int)) (v:Nat->Value) (vs:Nat->List Value) (w:World):Prop where
 box:w.heap[ps]?=some (.cells #[.map (some bm),v 0,v 1] 64 (0,0))
 map:∃n X,n<=(L 0).length+(L 1).length/\RM bm n X w/\Told (L 0) (L 1) X
 row:∀k,k<2->w.ownsRow lo 66 1 (v k) (L k).length (vs k)
 ne:∀g,(v 0).ownBlock=some g->(v 1).ownBlock≠some g
 lp:lo<=ps
 lb:lo<=bm
def stS(ps bm:Nat)(v:Nat->Value)(x:Nat):Prop:=x=ps\/x=bm\/(v 0).ownBlock=some x\/(v 1).ownBlock=some x
def upd{α:Type}(f:Nat->α)(k:Nat)(a:α):Nat->α:=fun j=>if j=k then a else f j
theorem upd_same{α}(f)(k)(a:α):upd f k a k=a:=if_pos rfl
theorem zAB{α}(f){k j}(a:α)(h:j≠k):upd f k a j=f j:=if_neg h
theorem zD3{α}(f:Nat->α)(k):upd f k (f k)=f:=by
 funext j
 unfold upd;split
 ·rename_i e;rw[e]
 ·rfl
section
variable {lo ps bm:Nat} {L:Nat->List (List Int)} {v:Nat->Value} {vs:Nat->List Value} {w w':World}
theorem StAt.lt(h:StAt lo ps bm L v vs w):ps<w.heap.size:=(Array.getElem?_eq_some_iff.1 h.box).1
theorem StAt.went(h:StAt lo ps bm L v vs w)(hb:Below w.heap.size w w'):StAt lo ps bm L v vs w':=by
 obtain⟨n,X,h1,h2,h3⟩:=h.map;exact⟨(hb.block ps h.lt).trans h.box,⟨n,X,h1,h2.keep (hb.block bm h2.lt),h3⟩,fun k hk=>Sep.zAE (h.row k hk) fun g e=>hb.block g ((h.row k hk).lt g e).2,h.ne,h.lp,h.lb⟩
theorem StAt.map_cell(h:StAt lo ps bm L v vs w):w.cell? ⟨ps,0,none⟩=some (.map (some bm)):=zAA h.box (k:=0) (by simp)
theorem StAt.row_cell(h:StAt lo ps bm L v vs w){k}(hk:k<2):w.cell? ⟨ps,1+k,none⟩=some (v k):=by
 rcases(by omega:k=0\/k=1)with rfl|rfl
 ·exact zAA h.box (k:=1) (by simp)
 ·exact zAA h.box (k:=2) (by simp)
theorem StAt.bm_map(h:StAt lo ps bm L v vs w):∃es c,w.heap[bm]?=some (.map es c):=by
 obtain⟨n,X,h1,⟨D,⟨es,c,h2,_⟩,_⟩,h3⟩:=h.map;exact⟨es,c,h2⟩
theorem StAt.ps_bm(h:StAt lo ps bm L v vs w):ps≠bm:=fun e=>by
 obtain⟨es,c,h2⟩:=h.bm_map;have:=h.box;rw[e,h2]at this;cases this
theorem zBz{base n}{T}{u}{xs}(h:w.ownsRow base T 1 u n xs){g}(hg:u.ownBlock=some g):∃cur,w.heap[g]?=some (.cells cur T (0,0)):=by
 rcases h.2 with⟨h0,_⟩|⟨g',cap,cur,h0,_,h1,_⟩
 ·rw[h0]at hg;cases hg
 ·rw[h0]at hg;injection hg with hg
  dsimp only at hg;subst hg;exact⟨cur,h1⟩
theorem StAt.own_ps(h:StAt lo ps bm L v vs w){k}(hk:k<2):(v k).ownBlock≠some ps:=fun e=>by
 obtain⟨cur,h1⟩:=zBz (h.row k hk) e;rw[h.box]at h1;injection h1 with h1
 injection h1 with _ h1 _
 exact absurd h1 (by decide)
theorem StAt.own_bm(h:StAt lo ps bm L v vs w){k}(hk:k<2):(v k).ownBlock≠some bm:=fun e=>by
 obtain⟨cur,h1⟩:=zBz (h.row k hk) e;obtain⟨es,c,h2⟩:=h.bm_map;rw[h2]at h1;cases h1
theorem StAt.turned(h:StAt lo ps bm L v vs w)(ht:w.mapTurned w' bm):w'.heap[ps]?=w.heap[ps]?/\(∀k,k<2->w'.ownsRow lo 66 1 (v k) (L k).length (vs k)):=by
 have hg:=ht.grown;refine⟨hg.block ps h.lt fun e=>h.ps_bm (by injection e),fun k hk=>Sep.zAE (h.row k hk) fun g e=>hg.block g ((h.row k hk).lt g e).2 fun e2=>?_⟩;injection e2 with e2
 exact h.own_bm hk (e2▸e)
theorem StAt.more{k}{r}{u}{w5 wa w7}(h:StAt lo ps bm L v vs w)(hk:k<2)(hr:CdR r)(hn:r∉L k){n}{X}(hX:Told (L 0) (L 1) X)(hnl:n<=(L 0).length+(L 1).length)
  (hm:RM bm (n+1) (fun y=>if y=(k,tx r)then some ((L k).length:Int)else X y) w5) (ht:w.mapTurned w5 bm) (hb:Below w5.heap.size w5 wa) {v'}
  (hown:w7.ownsRow lo 66 1 v' ((L k).length+1) (vs k++[u])) (hg:wa.grownBy w7 (v k).ownBlock) (hl:v'.ownBlock=(v k).ownBlock\/v'.ownBlock=some wa.heap.size):
  StAt lo ps bm (upd L k (putR (L k) r)) (upd v k v') (upd vs k (vs k++[u])) (w7.setCell ⟨ps,1+k,none⟩ v')/\Sep.Fr (stS ps bm v) w (w7.setCell ⟨ps,1+k,none⟩ v')/\∀j x,(upd v k v' j).ownBlock=some x->(v j).ownBlock=some x\/w.heap.size<=x:=by
 obtain⟨t1,t2⟩:=h.turned ht;have hs5:=ht.grown.size;have hsa:=hb.size;have hlt:=h.lt;have hps5:w5.heap[ps]?= _:=t1.trans h.box;have hpsa:wa.heap[ps]?= _:=(hb.block ps (by omega)).trans hps5;have hps7:w7.heap[ps]?= _:=(hg.block ps (by omega) fun e=>h.own_ps hk e.symm).trans hpsa;have hown_lt:∀j,j<2->∀g,(v j).ownBlock=some g->g<w.heap.size:=fun j hj g e=>((h.row j hj).lt g e).2
 have hbm5:=hm.lt;have hputL:putR (L k) r=L k++[r]:=(zBL hn).1
 have hloc:∀x,v'.ownBlock=some x->(v k).ownBlock=some x\/w.heap.size<=x:=fun x e=>by
  rcases hl with h1|h1
  ·exact .inl (h1▸e)
  ·rw[h1]at e;injection e with e
   omega
 have hvps:v'.ownBlock≠some ps:=fun e=>by
  rcases hl with h1|h1
  ·exact h.own_ps hk (h1▸e)
  ·rw[h1]at e;injection e with e
   omega
 have hrow7:∀j,j<2->j≠k->w7.ownsRow lo 66 1 (v j) (L j).length (vs j):=fun j hj hjk=>Sep.zAE (t2 j hj) fun g e=>by
  have h1:=hown_lt j hj g e;refine(hg.block g (by omega) fun e2=>?_).trans (hb.block g (by omega));rcases(by omega:(j=0/\k=1)\/(j=1/\k=0))with⟨rfl,rfl⟩|⟨rfl,rfl⟩
  ·exact h.ne g e e2.symm
  ·exact h.ne g e2.symm e
 refine⟨⟨?_,?_,fun j hj=>?_,fun g e=>?_,h.lp,h.lb⟩,?_,fun j x e=>?_⟩
 ·rw[zAU hps7 (k:=1+k)];rcases(by omega:k=0\/k=1)with rfl|rfl<;>rfl
 ·refine⟨n+1,_,?_,hm.keep ?_,?_⟩
  ·rcases(by omega:k=0\/k=1)with rfl|rfl
   ·rw[upd_same,zAB _ _ (by decide),hputL,List.length_append];simp only[List.length_cons,List.length_nil];omega
   ·rw[upd_same,zAB _ _ (by decide),hputL,List.length_append];simp only[List.length_cons,List.length_nil];omega
  ·rw[Below.heap_setCell _ _ _ _ (fun e=>h.ps_bm e.symm)];exact(hg.block bm (by omega) fun e=>h.own_bm hk e.symm).trans (hb.block bm hbm5)
  ·rcases(by omega:k=0\/k=1)with rfl|rfl
   ·rw[upd_same,zAB _ _ (by decide),hputL];exact hX.put0 hr hn
   ·rw[upd_same,zAB _ _ (by decide),hputL];exact hX.put1 hr hn
 ·by_cases e:j=k
  ·subst e;rw[upd_same,upd_same,upd_same,hputL,List.length_append];exact Sep.zAE hown fun g e=>Below.heap_setCell _ _ _ _ (fun e2=>hvps (by rw[e];exact congrArg some e2))
  ·rw[zAB _ _ e,zAB _ _ e,zAB _ _ e];exact Sep.zAE (hrow7 j hj e) fun g e=>Below.heap_setCell _ _ _ _ (fun e2=>h.own_ps hj (by rw[e];exact congrArg some e2))
 ·intro e2;rcases(by omega:k=0\/k=1)with rfl|rfl
  ·rw[upd_same]at e;rw[zAB _ _ (by decide)]at e2;have h1:=hown_lt 1 (by decide) g e2;rcases hloc g e with h2|h2
   ·exact h.ne g h2 e2
   ·omega
  ·rw[upd_same]at e2;rw[zAB _ _ (by decide)]at e;have h1:=hown_lt 0 (by decide) g e;rcases hloc g e2 with h2|h2
   ·exact h.ne g e h2
   ·omega
 ·have f1:Sep.Fr (stS ps bm v) w w5:=(Sep.Fr.refl _ _).grown ht.grown fun x e=> .inl (.inr (.inl (by injection e with e;exact e.symm)))
  have f2:Sep.Fr (stS ps bm v) w wa:=f1.trans (.of_below hb) fun x hx=> .inl hx
  have f3:Sep.Fr (stS ps bm v) w w7:=f2.grown hg fun x e=> .inl (by
   rcases(by omega:k=0\/k=1)with rfl|rfl
   ·exact .inr (.inr (.inl e))
   ·exact .inr (.inr (.inr e)))
  exact f3.setCell _ (.inl rfl) _
 ·by_cases e2:j=k
  ·subst e2;rw[upd_same]at e;exact hloc x e
  ·rw[zAB _ _ e2]at e;exact .inl e
end
def zJl(lo ps bm:Nat)(L:Nat->List (List Int))(v:Nat->Value)(vs:Nat->List Value)(k:Nat)(r:List Int)(u:Value)(w:World)(e:Ending)(w':World):Prop:=
 e=.returned (.int .i64 (plc (L k) r:Int))/\∃v',StAt lo ps bm (upd L k (putR (L k) r)) v' (upd vs k (if r∈L k then vs k else vs k++[u])) w'/\Sep.Fr (stS ps bm v) w w'/\∀j x,(v' j).ownBlock=some x->(v j).ownBlock=some x\/w.heap.size<=x
theorem zVI{n:Nat}(h:n<=1000000):(Lit.int .i64 (n:Int)).wf=true:=by
 simp only[Lit.wf,IntKind.min,IntKind.max,IntKind.signed,IntKind.bits,Bool.and_eq_true,decide_eq_true_eq,if_true];omega
theorem zCr(base)(w:World)(u)(T)(hb:base<=w.heap.size)(q)(hq:q=w.heap.size):(w.alloc (.cells #[u] T)).ownsRow base T 1 (.slice (some ⟨q,0,none⟩) 1 1) 1 [u]:=by
 subst hq;exact World.ownsRow_lit w #[u] 1 hb (by decide) (by simp)
theorem zFa{lo ps bm:Nat}{L:Nat->List (List Int)}{v:Nat->Value}{vs:Nat->List Value}(w:World)(h:StAt lo ps bm L v vs w)(k:Nat)(hk:k<2)(r:List Int)(a:Option Addr)(c:Nat)(hR:CodA a r w)(hr:CdR r)(hl:∀k,k<2->(L k).length<=100000):
  Calls Tryz.prog 28 #[.pointer (some ⟨ps,0,none⟩),.int .i64 (k:Int),.slice a r.length c] w (zJl lo ps bm L v vs k r (.slice a r.length c) w):=by
 have TX:=zV7 (zRP r a c w hR hr);have H0:=zV7 h;have hok:=zV4 hr k (by omega);have hlk:=hl k hk;have hl0:=hl 0 (by decide);have hl1:=hl 1 (by decide);have hk2:(k:Int)<2:=by omega
 have hlo:lo<=w.heap.size:=Nat.le_trans h.lp (Nat.le_of_lt h.lt);obtain⟨i0,hj,hz0,hz1,hz2⟩:=info_parts zDn;have HR:=zV7 hr;clear hR h hr hl;go_enter Tryz.func28,Tryz.ntmps28;go_wp2_with (go_at_call 76;refine TX.out.mono ?_;rintro e w2 ⟨rfl,hb2⟩;have B2:=zV7 hb2;clear hb2);have b3:=boxed w2 (.cells #[.int .i64 (k:Int),.string (tx r)] 123);have c0:(w2.alloc (.cells #[.int .i64 (k:Int),.string (tx r)] 123)).cell? ⟨w2.heap.size,0,none⟩=some (.int .i64 (k:Int)):=zAC rfl rfl;have c1:(w2.alloc (.cells #[.int .i64 (k:Int),.string (tx r)] 123)).cell? ⟨w2.heap.size,1,none⟩=some (.string (tx r)):=zAC rfl rfl;have B3:=zV7 (Gr.step B2.out b3);clear b3 TX;generalize w2.alloc (.cells #[.int .i64 (k:Int),.string (tx r)] 123)=w3 at*;have H3:=zV7 (H0.out.went B3.out);have p0:=H3.out.map_cell;have p1:=H3.out.row_cell hk;obtain⟨n,X,hnl,hX,hTold⟩:=H3.out.map;have hn:n<maxLen:=by unfold maxLen;omega
 have hval:=hTold r HR.out
 have hXk:X (k,tx r)=numL (L k) r:=by
  rcases(by omega:k=0\/k=1)with rfl|rfl
  ·exact hval.1
  ·exact hval.2
 have LK:(Instr.lookup 61 (.map (some bm)) (.agg #[.int .i64 (k:Int),.string (tx r)]) true).run Tryz.prog w3.drew=.ok (.tuple #[.int .i64 ((X (k,tx r)).getD 0),.bool (X (k,tx r)).isSome]) w3.drew:=
  (hX.keep rfl:RM bm n X w3.drew).look krK Tryz.underlying61 Tryz.underlying3 (zV6 _) hok
 rw[hXk]at LK
 by_cases hin:r∈L k
 ·have hplc:=zCi hin;have hnum:numL (L k) r=some ((L k).idxOf r:Int):=if_pos hin;rw[hnum]at LK;simp only[Option.getD_some,Option.isSome_some]at LK;have E1:=zV7 hplc.1;have E2:=zV7 hplc.2.1;clear hplc hnum hX hTold hval hXk;go_region;go_wp2_with fail;go_ret;refine⟨Gr.zAx (by rw[E2.out]),v,?_,.of_below (Gr.step B3.out (drawn w3)),fun j x e=> .inl e⟩;rw[E1.out,if_pos hin,zD3,zD3];exact H3.out.went (drawn w3)
 ·have hnum:numL (L k) r=none:=if_neg hin;rw[hnum]at LK;simp only[Option.getD_none,Option.isSome_none]at LK;have E2:=zV7 (zBL hin).2;have hwf:=zVI (n:=(L k).length) (by omega)
  have MU:∃w5,(Instr.mapUpdate 61 (.map (some bm)) (.agg #[.int .i64 (k:Int),.string (tx r)]) (.int .i64 ((L k).length:Int))).run Tryz.prog w3.drew.drew=.ok () w5/\RM bm (n+1) (fun y=>if y=(k,tx r)then some ((L k).length:Int)else X y) w5/\w3.drew.drew.mapTurned w5 bm:=
   (hX.keep rfl:RM bm n X w3.drew.drew).store krK Tryz.underlying61 Tryz.underlying3 hn hok hwf
  obtain⟨w5,hrun,hm5,ht5⟩:=MU;obtain⟨av,cv,hvk⟩:=Rw.zAG (H3.out.row k hk);rw[hvk]at p1;have H4:=zV7 ((H3.out.went (drawn w3)).went (drawn w3.drew));obtain⟨t1,t2⟩:=H4.out.turned ht5;have q0:w5.heap[ps]?=some (.cells #[.map (some bm),v 0,v 1] 64 (0,0)):=t1.trans H4.out.box;have hp5:ps<w5.heap.size:=(Array.getElem?_eq_some_iff.1 q0).1;have hs5:w3.heap.size<=w5.heap.size:=ht5.grown.size;have hlo5:lo<=w5.heap.size:=Nat.le_trans hlo (Nat.le_trans B3.out.size hs5)
  have q1:w5.cell? ⟨ps,1+k,none⟩=some (.slice av (L k).length cv):=by
   rw[←hvk];rcases(by omega:k=0\/k=1)with rfl|rfl
   ·exact zAA q0 (k:=1) (by simp)
   ·exact zAA q0 (k:=2) (by simp)
  have BW:=zV7 (show Below w5.heap.size w5 (w5.drew.alloc (.cells #[.slice a r.length c] 66))from(drawn w5).alloc (Nat.le_refl _) _);have hsz:(w5.drew.alloc (.cells #[.slice a r.length c] 66)).heap.size=w5.heap.size+1:=World.size_alloc _ _;have hsz6:lo<=(w5.drew.alloc (.cells #[.slice a r.length c] 66)).heap.size:=by omega
  have RX:=zV7 (show(w5.drew.alloc (.cells #[.slice a r.length c] 66)).ownsRow lo 66 1 (.slice av (L k).length cv) (L k).length (vs k)from by
   have:=t2 k hk;rw[hvk]at this
   exact Sep.zAE this fun g e=>BW.out.block g (this.lt g e).2)
  have ON:=zV7 (zCr lo w5.drew (.slice a r.length c) 66 hlo5 w5.heap.size rfl)
  have SEE:=zV7 (fun(w7:World) (hg:(w5.drew.alloc (.cells #[.slice a r.length c] 66)).grownBy w7 (Value.slice av (L k).length cv).ownBlock)=>(show w7.cell? ⟨ps,1+k,none⟩=some (.slice av (L k).length cv)/\w7.frozen? ⟨ps,1+k,none⟩=false from by
   have e:w7.heap[ps]?=w5.heap[ps]?:=(hg.block ps (by omega) fun e=>H4.out.own_ps hk (by rw[hvk];exact e.symm)).trans (BW.out.block ps hp5)
   exact⟨(World.cell?_of_block (a:=⟨ps,1+k,none⟩) e).trans q1,zAM (e.trans q0)⟩))
  have FIN:=zV7 (fun(w7:World) (v':Value) (hown:w7.ownsRow lo 66 1 v' ((L k).length+1) (vs k++[.slice a r.length c])) (hg:(w5.drew.alloc (.cells #[.slice a r.length c] 66)).grownBy w7 (v k).ownBlock) (hloc:v'.ownBlock=(v k).ownBlock\/v'.ownBlock=some (w5.drew.alloc (.cells #[.slice a r.length c] 66)).heap.size)=>
   H4.out.more hk HR.out hin hTold hnl hm5 ht5 BW.out hown hg hloc)
  rw[hvk]at FIN;have B4:=zV7 (Gr.step B3.out (Gr.step (drawn w3) (drawn w3.drew)));clear hnum hX hTold hval hXk hm5 ht5 t1 t2 q0 H0 hsz;go_region;go_wp2_with fail;go_region;go_wp2_with fail;clear hrun LK p0 p1 c0 c1
  go_region_law (first
   | (refine Rw.zAH _ (by rfl) _ _ 30 (by rfl) lo 66 i0 (.slice none 0 0) 1 24 Tryz.underlying30 hj hz0 hz1 hz2 rfl (by decide) (.slice av (L k).length cv) (L k).length (vs k) (by rfl) RX.out lo (.slice (some ⟨w5.heap.size,0,none⟩) 1 1) 1 [.slice a r.length c] (by rfl) ON.out (by simp[Value.oneCell']) (by unfold maxLen;omega) (by omega) hsz6 ?_;intro v7 w7 hown7 hg7 hloc7;obtain⟨a7,c7,rfl⟩:=Rw.zAG hown7;obtain⟨q9,f9⟩:=SEE.out w7 hg7;have R7:=zV7 (FIN.out w7 _ hown7 hg7 hloc7);clear hown7 hg7 hloc7))
  all_goals
   go_wp2_with fail;go_ret;obtain⟨r1,r2,r3⟩:=R7.out;refine⟨Gr.zAx (by rw[E2.out]),_,?_,(Sep.Fr.of_below B4.out).trans r2 (.refl _ _),fun j x e=>(r3 j x e).imp id fun h=>Nat.le_trans B4.out.size h⟩;rw[if_neg hin];exact r1
end Pk
namespace Pk
open Gr (cell_later boxed drawn zFA New ivs)
open Im (ic zAe)
theorem zG0:(Tryz.prog.info? 57).map (fun i=>(i.zero,i.size,i.bytes))=some (some (.agg #[.int .i64 0,.int .i64 0]),2,16):=by kernel_rfl
theorem zFQ(n:Nat)(hn:n<=100000)(w):
  (Instr.makeSlice 53 (.int .i64 (n:Int)) (.int .i64 (n:Int))).run Tryz.prog w=.ok (.slice (some ⟨w.heap.size,0,none⟩) n n) (w.alloc (.cells (madeCells #[.int .i64 0,.int .i64 0] (n*2)) 57)):=by
 obtain⟨i0,hi,hz0,hz1,hz2⟩:=info_parts zG0;have hr:=run_make (P:=Tryz.prog) w 53 57 i0 (.agg #[.int .i64 0,.int .i64 0]) Tryz.underlying53 hi hz0 .i64 .i64 (n:Int) (n:Int) (by omega) (Int.le_refl _) (by rw[hz2];omega) (by omega);rw[show((n:Int)).toNat=n by omega]at hr;rw[hr,hz1]
 rfl
theorem zJn(L:List Int):((L.map zAb).flatMap ic).length=L.length*2:=by rw[zAe,List.length_map]
theorem zR9(L:List Int){k}(hk):((L.map zAb).flatMap ic)[k*2]?=some (.int .i64 (zAb L[k]).1)/\((L.map zAb).flatMap ic)[k*2+1]?=some (.int .i64 (zAb L[k]).2):=by
 have g0:=Rw.zBT ic Im.zA6 (L.map zAb) k (by simpa using hk) 0 (by omega);have g1:=Rw.zBT ic Im.zA6 (L.map zAb) k (by simpa using hk) 1 (by omega);simp only[List.getElem_map,Nat.add_zero]at g0 g1;exact⟨g0,g1⟩
theorem zIx(L:List Int)(a:Option Addr)(c:Nat)(w:World)(h:CodA a L w)(hl:L.length<=100000)(hp:∀x∈L,Cd x):
  Calls Tryz.prog 42 #[.slice a L.length c,.func (.func 43) #[] #[]] w (NewL 57 L.length ((L.map zAb).flatMap ic) w):=by
 have hmk:=fun w=>zFQ L.length hl w
 have B1:=zV7 (boxed w (.cells (madeCells #[.int .i64 0,.int .i64 0] (L.length*2)) 57));have F0:=zV7 (show Fl w.heap.size 57 ((L.map zAb).flatMap ic) 0 (w.alloc (.cells (madeCells #[.int .i64 0,.int .i64 0] (L.length*2)) 57))from Fl.made _ _ [] _ _ (by rw[size_madeCells,zJn]));have HR:=zV7 (fun w1 (b:Below w.heap.size w w1)=>h.went b);have HP:=zV7 hp;have HC:=zV7 (fun k (hk:k<L.length)=>zR9 L hk);have HE:=zV7 (zJn L);clear hp h;generalize (L.map zAb).flatMap ic=cs at*;go_enter Tryz.func42,Tryz.ntmps42;go_wp2_with fail;generalize hw2:w.alloc (.cells (madeCells #[.int .i64 0,.int .i64 0] (L.length*2)) 57)=w2 at*;clear hw2 hmk;go_loopw [13] (fun v wr=>∃k:Nat,v=.int .i64 (k:Int)/\k<=L.length/\Fl w.heap.size 57 cs (k*2) wr/\Sep.Fr (fun x=>x=w.heap.size) w2 wr) (fun v _=>L.length-(intOf v).toNat)
 case atStart=>exact⟨0,rfl,Nat.zero_le _,F0.out,.refl _ _⟩
 case round=>
  obtain⟨k,rfl,hk,hF,hf⟩:=hrel;have FF:=zV7 hF;have BR:=zV7 (B1.out.trans (hf.below (m:=w.heap.size) (fun x hx=>by omega) B1.out.size));have FR:=zV7 hf;clear hF hf
  by_cases hlt:k<L.length
  ·obtain⟨rb,ro,rfl,p0⟩:=(HR.out wr BR.out).at hlt;have HCk:=zV7 (HC.out k hlt);have hx:=HP.out _ (List.getElem_mem hlt);generalize L[k]=x at*;have CA:=zV7 (fun w1=>zD7 x hx w1);have hkn:(k:Int)<(L.length:Int):=by omega
   generalize zAb x=z at*;obtain⟨z1,z2⟩:=z;obtain⟨u,hu⟩:=FF.out.has (j:=k*2) (by rw[HE.out];omega);obtain⟨u',hu'⟩:=FF.out.has (j:=k*2+1) (by rw[HE.out];omega);have hpw:w.heap.size<wr.heap.size:=FF.out.lt;clear hx;go_wp2_with (go_at_call 43;refine(CA.out _).mono ?_;rintro e w3 ⟨rfl,hb3⟩;have F3:=zV7 (FF.out.went hb3);have R3:=zV7 (FR.out.trans (.of_below hb3) (fun x hx=> .inl hx));have hu3:=cell_later hb3 hu;have hu4:=cell_later hb3 hu';have f3:=F3.out.free (k*2);have f4:=F3.out.free (k*2+1);clear hb3);have F4:=zV7 ((F3.out.put HCk.out.1).put HCk.out.2);have R4:=zV7 ((R3.out.setCell ⟨w.heap.size,k*2,none⟩ rfl (.int .i64 z1)).setCell ⟨w.heap.size,k*2+1,none⟩ rfl (.int .i64 z2));go_roundw
   case rel=>exact⟨k+1,by go_num,by omega,by rw[show(k+1)*2=k*2+1+1 by omega];exact F4.out,R4.out⟩
   case measure=>first|(simp[intOf];omega)|omega
  ·obtain rfl:k=L.length:=by omega
   have FE:=zV7 (show Fl w.heap.size 57 cs cs.length wr by rw[HE.out];exact FF.out);go_wp2;go_ret;exact⟨w.heap.size,rfl,Nat.le_refl _,FE.out.all,BR.out⟩
def zVN(r:Int×List Int)(w:World)(e:Ending)(w':World):Prop:=
 ∃a c,e=.returned (.agg #[.int .i64 r.1,.slice a r.2.length c])/\IntA a r.2 w'/\New a w/\Below w.heap.size w w'
theorem zPX(x:Int)(l:List Int)(a:Option Addr)(c:Nat)(w:World)(h:IntA a l w)(hl:l.length<=17592186044416):
  Calls Tryz.prog 74 #[.agg #[.int .i64 x,.slice a l.length c]] w (zVN (x,l) w):=by
 have b1:=boxed w (.cells #[.int .i64 x,.slice a l.length c] 55);have b2:=boxed (w.alloc (.cells #[.int .i64 x,.slice a l.length c] 55)) (.cells #[.int .i64 0,.slice none 0 0] 55);have B2:=zV7 (Gr.step b1 b2);have H1:=zV7 ((b2.block w.heap.size (by rw[World.size_alloc];exact Nat.lt_succ_self _)).trans (zAd w (.cells #[.int .i64 x,.slice a l.length c] 55)));have H2:=zV7 (zAd (w.alloc (.cells #[.int .i64 x,.slice a l.length c] 55)) (.cells #[.int .i64 0,.slice none 0 0] 55));rw[World.size_alloc]at H2;have CL:=zV7 (fun w1 (b:Below w.heap.size w w1)=>zFA a l c w1 (h.went b) hl);clear h b1 b2;go_enter Tryz.func74,Tryz.ntmps74;go_wp2_with fail;generalize (w.alloc (.cells #[.int .i64 x,.slice a l.length c] 55)).alloc (.cells #[.int .i64 0,.slice none 0 0] 55)=w2 at*;have q0:=zAA H1.out (k:=0) (by simp);have q1:=zAA H1.out (k:=1) (by simp);have q2:=zAA H2.out (k:=0) (by simp);have q3:=zAA H2.out (k:=1) (by simp);have q4:=zAM (k:=0) H2.out;have q5:=zAM (k:=1) H2.out;simp only[List.getElem_toArray,List.getElem_cons_zero,List.getElem_cons_succ]at q0 q1 q2 q3;have hqs:w.heap.size+1<w2.heap.size:=(Array.getElem?_eq_some_iff.1 H2.out).1
 have HQ:=zV7 (show∀w',Below w2.heap.size w2 w'->w'.cell? ⟨w.heap.size,0,none⟩=some (.int .i64 x)/\w'.cell? ⟨w.heap.size,1,none⟩=some (.slice a l.length c)/\Below w.heap.size w w'
  from fun w' hb=>⟨cell_later hb q0,cell_later hb q1,Gr.step B2.out hb⟩)
 have HT:=zV7 (show∀w' u v,Below w2.heap.size w2 w'->((w'.setCell ⟨w.heap.size+1,0,none⟩ u).setCell ⟨w.heap.size+1,1,none⟩ v).cell? ⟨w.heap.size,0,none⟩=some (.int .i64 x)/\((w'.setCell ⟨w.heap.size+1,0,none⟩ u).setCell ⟨w.heap.size+1,1,none⟩ v).cell? ⟨w.heap.size,1,none⟩=some (.slice a l.length c)/\Below w.heap.size w ((w'.setCell ⟨w.heap.size+1,0,none⟩ u).setCell ⟨w.heap.size+1,1,none⟩ v)
  from fun w' u v hb=>⟨by rw[World.cell?_setCell_other _ _ _ _ (by intro e;simp at e),World.cell?_setCell_other _ _ _ _ (by intro e;simp at e)];exact cell_later hb q0,by rw[World.cell?_setCell_other _ _ _ _ (by intro e;simp at e),World.cell?_setCell_other _ _ _ _ (by intro e;simp at e)];exact cell_later hb q1,
   ((Gr.step B2.out hb).setCell (Nat.le_succ _) _).setCell (Nat.le_succ _) _⟩)
 have CQ:=zV7 (fun w1 (k:Below w2.heap.size w2 w1)=>CL.out w1 (Gr.step B2.out k));have hbd:=drawn w2;clear CL
 go_region_held3 (fun w'=>w'.cell? ⟨w.heap.size,0,none⟩=some (.int .i64 x)/\w'.cell? ⟨w.heap.size,1,none⟩=some (.slice a l.length c)/\Below w.heap.size w w')
  (first|exact HQ.out _ (by assumption)|exact HT.out _ _ _ (by assumption))
  (first
   |(go_at_call 75;refine(CQ.out _ hbd).mono ?_;rintro e wn ⟨a',c',rfl,hr,hnew,hb⟩;have HR3:=zV7 hr;have HN:=zV7 hnew;have kB:Below w2.heap.size w2 wn:=Gr.step hbd hb;have z2:=cell_later kB q2;have z3:=cell_later kB q3;have z4:=Gr.zBJ kB q4 q2;have z5:=Gr.zBJ kB q5 q2;clear hr hnew hb)
   |fail)
 go_wp2
 have f0:((wn.setCell ⟨w.heap.size+1,0,none⟩ (.int .i64 x)).setCell ⟨w.heap.size+1,1,none⟩ (.slice a' l.length c')).cell? ⟨w.heap.size+1,0,none⟩=some (.int .i64 x):=by
  rw[World.cell?_setCell_other _ _ _ _ (by intro e;simp at e)];exact World.cell?_setCell_same _ _ _ z2
 have f1:((wn.setCell ⟨w.heap.size+1,0,none⟩ (.int .i64 x)).setCell ⟨w.heap.size+1,1,none⟩ (.slice a' l.length c')).cell? ⟨w.heap.size+1,1,none⟩=some (.slice a' l.length c'):=by
  have y3:(wn.setCell ⟨w.heap.size+1,0,none⟩ (.int .i64 x)).cell? ⟨w.heap.size+1,1,none⟩=some (.slice none 0 0):=by
   rw[World.cell?_setCell_other _ _ _ _ (by intro e;simp at e)];exact z3
  exact World.cell?_setCell_same _ _ _ y3
 have HF:=zV7 (show Sep.Reads a' (ivs l) ((wn.setCell ⟨w.heap.size+1,0,none⟩ (.int .i64 x)).setCell ⟨w.heap.size+1,1,none⟩ (.slice a' l.length c'))from HR3.out.keep fun b' o' e'=>by
  have hn:w2.heap.size<=b':=HN.out _ e'
  rw[Below.heap_setCell _ _ _ _ (by simp;omega),Below.heap_setCell _ _ _ _ (by simp;omega)])
 have hnw:New a' w:=fun y e=>by
  have:=HN.out y e;have:w2.heap.size<=y.block:=this;omega
 exact bodyPost_ret (v:=.agg #[.int .i64 x,.slice a' l.length c']) (by simp[results,Tryz.results74,go_sem,f0,f1]) rfl ⟨_,_,rfl,HF.out,hnw,(HT.out _ _ _ kB).2.2⟩
structure CopI (X:List (Int×List Int)) (b k:Nat) (w:World):Prop where
 blk:∃cur,w.heap[b]?=some (.cells cur 55 (0,0))/\cur.size=X.length*2
 els:∀j (h:j<X.length),j<k->∃ra rc,w.cell? ⟨b,j*2,none⟩=some (.int .i64 X[j].1)/\w.cell? ⟨b,j*2+1,none⟩=some (.slice ra X[j].2.length rc)/\IntA ra X[j].2 w/\(∀y,ra=some y->b<y.block)/\X[j].2.length<=17592186044416
section
variable {X:List (Int×List Int)} {b k:Nat} {w w':World}
theorem CopI.lt(h:CopI X b k w):b<w.heap.size:=by
 obtain⟨cur,h1,_⟩:=h.blk;exact(Array.getElem?_eq_some_iff.1 h1).1
theorem CopI.free(h:CopI X b k w)(j):w.frozen? ⟨b,j,none⟩=false:=by
 obtain⟨cur,h1,_⟩:=h.blk;exact zAM h1
theorem CopI.has(h:CopI X b k w){j}(hj:j<X.length*2):∃u,w.cell? ⟨b,j,none⟩=some u:=by
 obtain⟨cur,h1,h2⟩:=h.blk;exact⟨_,zAA h1 (k:=j) (by omega)⟩
theorem CopI.went(h:CopI X b k w)(hb:Below w.heap.size w w'):CopI X b k w':=by
 have hl:=h.lt;obtain⟨cur,h1,h2⟩:=h.blk;refine⟨⟨cur,(hb.block b hl).trans h1,h2⟩,fun j hj hk=>?_⟩;obtain⟨ra,rc,e1,e2,e3,e4⟩:=h.els j hj hk;exact⟨ra,rc,cell_later hb e1,cell_later hb e2,e3.went hb,e4⟩
theorem CopI.put(h:CopI X b k w)(hk){ra}{rc}(hr:IntA ra X[k].2 w)(hn:∀y,ra=some y->b<y.block)(hl:X[k].2.length<=17592186044416):
  CopI X b (k+1) ((w.setCell ⟨b,k*2,none⟩ (.int .i64 X[k].1)).setCell ⟨b,k*2+1,none⟩ (.slice ra X[k].2.length rc)):=by
 obtain⟨u,hu⟩:=h.has (j:=k*2) (by omega);obtain⟨u',hu'⟩:=h.has (j:=k*2+1) (by omega)
 have other:∀(p:Addr) (v:Value),w.cell? p=some v->(p.block=b->p.off≠k*2/\p.off≠k*2+1)->((w.setCell ⟨b,k*2,none⟩ (.int .i64 X[k].1)).setCell ⟨b,k*2+1,none⟩ (.slice ra X[k].2.length rc)).cell? p=some v:=fun p v hv hp=>by
  rw[World.cell?_setCell_other _ _ _ _ (fun e=>by subst e;exact(hp rfl).2 rfl),World.cell?_setCell_other _ _ _ _ (fun e=>by subst e;exact(hp rfl).1 rfl)];exact hv
 have reads:∀(r:Option Addr) (l:List Int),IntA r l w->(∀y,r=some y->b<y.block)->IntA r l ((w.setCell ⟨b,k*2,none⟩ (.int .i64 X[k].1)).setCell ⟨b,k*2+1,none⟩ (.slice ra X[k].2.length rc)):=fun r l h1 h2=>Sep.Reads.keep h1 fun b' o' e=>by
  have:=h2 _ e;dsimp only at this;rw[Below.heap_setCell _ _ _ _ (by simp;omega),Below.heap_setCell _ _ _ _ (by simp;omega)]
 obtain⟨cur,h1,h2⟩:=h.blk;refine⟨⟨_,zAU (zAU h1 _) _,by simp[h2]⟩,fun j hj hjk=>?_⟩
 by_cases e:j=k
 ·subst e;refine⟨ra,rc,?_,?_,reads _ _ hr hn,hn,hl⟩
  ·rw[World.cell?_setCell_other _ _ _ _ (by intro e;simp at e)];exact World.cell?_setCell_same _ _ _ hu
  ·exact World.cell?_setCell_same _ _ _ ((World.cell?_setCell_other _ _ _ _ (by intro e;simp at e)).trans hu')
 ·obtain⟨ra',rc',e1,e2,e3,e4,e5⟩:=h.els j hj (by omega);exact⟨ra',rc',other _ _ e1 (fun _=>by dsimp only;omega),other _ _ e2 (fun _=>by dsimp only;omega),reads _ _ e3 e4,e4,e5⟩
end
def zJj(X:List (Int×List Int))(w:World)(e:Ending)(w':World):Prop:=
 ∃b,e=.returned (.slice (some ⟨b,0,none⟩) X.length X.length)/\(∀w2,(∀g,w.heap.size<=g->g<w'.heap.size->w2.heap[g]?=w'.heap[g]?)->RulA (some ⟨b,0,none⟩) X w2)/\Below w.heap.size w w'
theorem CopI.gave{X}{b}{w}(h:CopI X b X.length w){w2}(hb:∀g,b<=g->g<w.heap.size->w2.heap[g]?=w.heap[g]?):RulA (some ⟨b,0,none⟩) X w2:=fun i hi=>by
 obtain⟨ra,rc,e1,e2,e3,e4,e5⟩:=h.els i hi hi;have hlt:=h.lt;have hb0:=hb b (Nat.le_refl _) hlt;refine⟨b,0,ra,rc,rfl,?_,?_,fun j hj=>?_,e5⟩
 ·rw[Nat.zero_add];exact(World.cell?_of_block (a:=⟨b,i*2,none⟩) hb0).trans e1
 ·rw[Nat.zero_add];exact(World.cell?_of_block (a:=⟨b,i*2+1,none⟩) hb0).trans e2
 ·obtain⟨b',o',e,hc⟩:=e3 j hj;have h1:=e4 _ e;have h2:=World.block_lt_of_cell? w _ hc;exact⟨b',o',e,(World.cell?_of_block (a:=⟨b',o'+j,none⟩) (hb b' (Nat.le_of_lt h1) h2)).trans hc⟩
theorem zNH:(Tryz.prog.info? 55).map (fun i=>(i.zero,i.size,i.bytes))=some (some (.agg #[.int .i64 0,.slice none 0 0]),2,32):=by kernel_rfl
theorem zLX(n:Nat)(hn:n<=100000)(w):
  (Instr.makeSlice 22 (.int .i64 (n:Int)) (.int .i64 (n:Int))).run Tryz.prog w=.ok (.slice (some ⟨w.heap.size,0,none⟩) n n) (w.alloc (.cells (madeCells #[.int .i64 0,.slice none 0 0] (n*2)) 55)):=by
 obtain⟨i0,hi,hz0,hz1,hz2⟩:=info_parts zNH;have hr:=run_make (P:=Tryz.prog) w 22 55 i0 (.agg #[.int .i64 0,.slice none 0 0]) Tryz.underlying22 hi hz0 .i64 .i64 (n:Int) (n:Int) (by omega) (Int.le_refl _) (by rw[hz2];omega) (by omega);rw[show((n:Int)).toNat=n by omega]at hr;rw[hr,hz1]
 rfl
theorem zMl(X:List (Int×List Int))(a:Option Addr)(c:Nat)(w:World)(h:RulA a X w)(hl:X.length<=100000):
  Calls Tryz.prog 73 #[.slice a X.length c,.func (.func 74) #[] #[]] w (zJj X w):=by
 have hmk:=fun w=>zLX X.length hl w
 have B1:=zV7 (boxed w (.cells (madeCells #[.int .i64 0,.slice none 0 0] (X.length*2)) 55));have F0:=zV7 (show CopI X w.heap.size 0 (w.alloc (.cells (madeCells #[.int .i64 0,.slice none 0 0] (X.length*2)) 55))from⟨⟨_,zAd _ _,by rw[size_madeCells]⟩,fun j _ hj=>absurd hj (Nat.not_lt_zero j)⟩);have HR:=zV7 (fun w1 (b:Below w.heap.size w w1)=>h.went b);clear h;go_enter Tryz.func73,Tryz.ntmps73;go_wp2_with fail;generalize hw2:w.alloc (.cells (madeCells #[.int .i64 0,.slice none 0 0] (X.length*2)) 55)=w2 at*;clear hw2 hmk;go_loopw [13] (fun v wr=>∃k:Nat,v=.int .i64 (k:Int)/\k<=X.length/\CopI X w.heap.size k wr/\Sep.Fr (fun x=>x=w.heap.size) w2 wr) (fun v _=>X.length-(intOf v).toNat)
 case atStart=>exact⟨0,rfl,Nat.zero_le _,F0.out,.refl _ _⟩
 case round=>
  obtain⟨k,rfl,hk,hF,hf⟩:=hrel;have FF:=zV7 hF;have BR:=zV7 (B1.out.trans (hf.below (m:=w.heap.size) (fun x hx=>by omega) B1.out.size));have FR:=zV7 hf;clear hF hf
  by_cases hlt:k<X.length
  ·obtain⟨rb,ro,ra,rc,rfl,p0,p1,hR,hL⟩:=(HR.out wr BR.out) k hlt;have PUT:=zV7 (fun(w3:World) (ra:Option Addr) (rc:Nat) (h3:CopI X w.heap.size k w3) (hr:IntA ra X[k].2 w3) (hn:∀y,ra=some y->w.heap.size<y.block)=>h3.put hlt (rc:=rc) hr hn hL);have RR:=zV7 hR;clear hR;generalize X[k]=r at*;obtain⟨x,l⟩:=r;dsimp only at p0 p1 hL;have hkn:(k:Int)<(X.length:Int):=by omega
   obtain⟨u,hu⟩:=FF.out.has (j:=k*2) (by omega);obtain⟨u',hu'⟩:=FF.out.has (j:=k*2+1) (by omega);have bb:=boxed wr (.cells #[.int .i64 x,.slice ra l.length rc] 55);have FB:=zV7 (FF.out.went bb);have RB:=zV7 (FR.out.trans (.of_below bb) (fun x hx=> .inl hx));have hpw:w.heap.size<wr.heap.size:=FF.out.lt;replace hu:=cell_later bb hu;replace hu':=cell_later bb hu';have CC:=zV7 (zPX x l ra rc _ (RR.out.went bb) hL);clear bb FF;go_wp2_with (go_at_call 74;refine CC.out.mono ?_;rintro e w3 ⟨a3,c3,rfl,hr3,hn3,hb3⟩;have R3:=zV7 hr3;have N3:=zV7 (show∀y,a3=some y->w.heap.size<y.block from fun y e=>by have:_<=y.block:=hn3 y e;rw[World.size_alloc]at this;omega);have F3:=zV7 (FB.out.went hb3);have G3:=zV7 (RB.out.trans (.of_below hb3) (fun x hx=> .inl hx));have hu3:=cell_later hb3 hu;have hu4:=cell_later hb3 hu';have f3:=F3.out.free (k*2);have f4:=F3.out.free (k*2+1);clear hb3 hr3 hn3);have F4:=zV7 (PUT.out w3 a3 c3 F3.out R3.out N3.out);have R4:=zV7 ((G3.out.setCell ⟨w.heap.size,k*2,none⟩ rfl (.int .i64 x)).setCell ⟨w.heap.size,k*2+1,none⟩ rfl (.slice a3 l.length c3));go_roundw
   case rel=>exact⟨k+1,by go_num,by omega,F4.out,R4.out⟩
   case measure=>first|(simp[intOf];omega)|omega
  ·obtain rfl:k=X.length:=by omega
   go_wp2;go_ret;exact⟨w.heap.size,rfl,fun w2 h=>FF.out.gave h,BR.out⟩
theorem zGH(X)(a)(c)(w)(h:RulA a X w)(hl:X.length<=100000):
  Calls Tryz.prog 27 #[.slice a X.length c] w (zJj X w):=by
 have E:=zV7 (zMl X a c w h hl);clear h;go_enter Tryz.func27,Tryz.ntmps27;go_wp2_with (go_at_call 73;refine E.out.mono ?_;rintro e w3 ⟨b,rfl,hk,hb3⟩;have K:=zV7 hk;have B:=zV7 hb3;clear hb3 hk);go_ret;exact⟨b,rfl,K.out,B.out⟩
end Pk
namespace Pk
open Gr (ivs)
open Go.Proofs.YtegeamggbglneaaGreatDoor.Sep (Fr)
section
variable {lo ps bm:Nat} {L:Nat->List (List Int)} {v:Nat->Value} {vs:Nat->List Value} {w w':World}
theorem StAt.at(h:StAt lo ps bm L v vs w)(hb:∀x,stS ps bm v x->w'.heap[x]?=w.heap[x]?):StAt lo ps bm L v vs w':=by
 obtain⟨n,X,h1,h2,h3⟩:=h.map;refine⟨(hb ps (.inl rfl)).trans h.box,⟨n,X,h1,h2.keep (hb bm (.inr (.inl rfl))),h3⟩,fun k hk=>Sep.zAE (h.row k hk) fun g e=>hb g ?_,h.ne,h.lp,h.lb⟩;rcases(by omega:k=0\/k=1)with rfl|rfl
 ·exact .inr (.inr (.inl e))
 ·exact .inr (.inr (.inr e))
theorem StAt.lo_of(h:StAt lo ps bm L v vs w){x}(hx:stS ps bm v x):lo<=x:=by
 rcases hx with rfl|rfl|e|e
 ·exact h.lp
 ·exact h.lb
 ·exact((h.row 0 (by decide)).lt x e).1
 ·exact((h.row 1 (by decide)).lt x e).1
theorem StAt.off(h:StAt lo ps bm L v vs w){x}{cur}{T}{f}(hx:w.heap[x]?=some (.cells cur T f))(h1:T≠64)(h2:T≠66):¬stS ps bm v x:=fun hs=>by
 rcases hs with rfl|rfl|e|e
 ·rw[h.box]at hx;injection hx with hx
  injection hx with _ hx _
  exact h1 hx.symm
 ·obtain⟨es,c,h3⟩:=h.bm_map;rw[h3]at hx;cases hx
 ·obtain⟨cur',h3⟩:=zBz (h.row 0 (by decide)) e;rw[h3]at hx;injection hx with hx
  injection hx with _ hx _
  exact h2 hx.symm
 ·obtain⟨cur',h3⟩:=zBz (h.row 1 (by decide)) e;rw[h3]at hx;injection hx with hx
  injection hx with _ hx _
  exact h2 hx.symm
end
def pkc(q0 q1 q2:Value)(vI:Nat->Value):Array Value:=#[q0,q1,q2,vI 0,.slice none 0 0,vI 1,.slice none 0 0]
def Dat(lo:Nat)(r:List Int)(u:Value)(w:World):Prop:=∃b,u=.slice (some ⟨b,0,none⟩) r.length r.length/\w.heap[b]?=some (.cells (r.map fun c=>Value.int .u16 c).toArray 48 (0,0))/\lo<=b
theorem Dat.kept{lo}{r}{u}{w w'}(h:Dat lo r u w)(hb:∀(b:Nat) (cur:Array Value),w.heap[b]?=some (.cells cur 48 (0,0))->w'.heap[b]?=w.heap[b]?):Dat lo r u w':=by
 obtain⟨b,e,h1,h2⟩:=h;exact⟨b,e,(hb b _ h1).trans h1,h2⟩
structure PkI (W:World) (pp ps bm:Nat) (q0 q1 q2:Value) (L:Nat->List (List Int)) (v:Nat->Value) (vs:Nat->List Value) (vI:Nat->Value) (iI:Nat->List Int) (w:World):Prop where
 box:w.heap[pp]?=some (.cells (pkc q0 q1 q2 vI) 32 (0,0))
 pl:pp<W.heap.size
 st:StAt W.heap.size ps bm L v vs w
 idx:∀k,k<2->w.ownsRow W.heap.size 3 1 (vI k) (iI k).length (ivs (iI k))
 ne:∀g,(vI 0).ownBlock=some g->(vI 1).ownBlock≠some g
 dat:∀k,k<2->(vs k).length=(L k).length/\∀j (h:j<(L k).length),∃u,(vs k)[j]?=some u/\Dat W.heap.size (L k)[j] u w
 fr:Fr (fun x=>x=pp) W w
theorem zBW{w:World}{base n c}{T}{a}{xs}(h:w.ownsRow base T 1 (.slice a n c) n xs)(hn:0<n):∃g,a=some ⟨g,0,none⟩:=by
 rcases h.2 with⟨_,h0⟩|⟨g,_,_,h0,_⟩
 ·omega
 ·simp only[Value.slice.injEq]at h0;exact⟨g,h0.1⟩
section
variable {W:World} {pp ps bm:Nat} {q0 q1 q2:Value} {L:Nat->List (List Int)} {v:Nat->Value} {vs:Nat->List Value} {vI:Nat->Value} {iI:Nat->List Int} {w w' wa:World}
theorem PkI.went(h:PkI W pp ps bm q0 q1 q2 L v vs vI iI w)(hb:Below w.heap.size w w'):PkI W pp ps bm q0 q1 q2 L v vs vI iI w':=
 ⟨(hb.block pp (Array.getElem?_eq_some_iff.1 h.box).1).trans h.box,h.pl,h.st.went hb,fun k hk=>Sep.zAE (h.idx k hk) fun g e=>hb.block g ((h.idx k hk).lt g e).2,h.ne,
  fun k hk=>⟨(h.dat k hk).1,fun j hj=>by
   obtain⟨u,h1,h2⟩:=(h.dat k hk).2 j hj
   exact⟨u,h1,h2.kept fun b cur e=>hb.block b (Array.getElem?_eq_some_iff.1 e).1⟩⟩,h.fr.trans (.of_below hb) fun x hx=> .inl hx⟩
theorem PkI.cell(h:PkI W pp ps bm q0 q1 q2 L v vs vI iI w){k}(hk:k<2):w.cell? ⟨pp,3+k*2,none⟩=some (vI k):=by
 rcases(by omega:k=0\/k=1)with rfl|rfl
 ·exact zAA h.box (k:=3) (by simp[pkc])
 ·exact zAA h.box (k:=5) (by simp[pkc])
theorem PkI.idx_type(h:PkI W pp ps bm q0 q1 q2 L v vs vI iI w){k}(hk:k<2){g}(hg:(vI k).ownBlock=some g):∃cur,w.heap[g]?=some (.cells cur 3 (0,0)):=zBz (h.idx k hk) hg
theorem PkI.placed(h:PkI W pp ps bm q0 q1 q2 L v vs vI iI w){k}(hk:k<2){r}{u}(hu:Dat W.heap.size r u w){v'}(hs:StAt W.heap.size ps bm (upd L k (putR (L k) r)) v' (upd vs k (if r∈L k then vs k else vs k++[u])) w')(hf:Fr (stS ps bm v) w w'):
  PkI W pp ps bm q0 q1 q2 (upd L k (putR (L k) r)) v' (upd vs k (if r∈L k then vs k else vs k++[u])) vI iI w':=by
 have hdat:∀{r u},Dat W.heap.size r u w->Dat W.heap.size r u w':=fun hd=>hd.kept fun b cur e=>hf.block b (Array.getElem?_eq_some_iff.1 e).1 (h.st.off e (by decide) (by decide))
 refine⟨(hf.block pp (Array.getElem?_eq_some_iff.1 h.box).1 fun hs=>?_).trans h.box,h.pl,hs,fun j hj=>Sep.zAE (h.idx j hj) fun g e=>?_,h.ne,fun j hj=>?_,h.fr.trans hf fun x hx=>?_⟩
 ·have:=h.st.lo_of hs;have:=h.pl;omega
 ·obtain⟨cur,e2⟩:=h.idx_type hj e;exact hf.block g (Array.getElem?_eq_some_iff.1 e2).1 (h.st.off e2 (by decide) (by decide))
 ·by_cases ek:j=k
  ·subst ek;rw[upd_same,upd_same];obtain⟨d1,d2⟩:=h.dat j hj
   by_cases hm:r∈L j
   ·rw[if_pos hm,(zCi hm).1];refine⟨d1,fun i hi=>?_⟩;obtain⟨u',h1,h2⟩:=d2 i hi;exact⟨u',h1,hdat h2⟩
   ·rw[if_neg hm,(zBL hm).1];refine⟨by rw[List.length_append,List.length_append,d1];rfl,fun i hi=>?_⟩
    by_cases hi2:i<(L j).length
    ·obtain⟨u',h1,h2⟩:=d2 i hi2;refine⟨u',?_,?_⟩
     ·rw[List.getElem?_append_left (by omega)];exact h1
     ·rw[List.getElem_append_left hi2];exact hdat h2
    ·rw[List.length_append]at hi;simp only[List.length_cons,List.length_nil]at hi;obtain rfl:i=(L j).length:=by omega
     refine⟨u,?_,?_⟩
     ·rw[List.getElem?_append_right (by omega),d1];simp
     ·rw[List.getElem_append_right (Nat.le_refl _)]
      simpa using hdat hu
  ·rw[zAB _ _ ek,zAB _ _ ek];obtain⟨d1,d2⟩:=h.dat j hj;refine⟨d1,fun i hi=>?_⟩;obtain⟨u',h1,h2⟩:=d2 i hi;exact⟨u',h1,hdat h2⟩
 ·exact .inr (Nat.le_trans (Nat.le_refl _) (h.st.lo_of hx))
theorem PkI.rowed(h:PkI W pp ps bm q0 q1 q2 L v vs vI iI w){k}(hk:k<2){x}{w7}(hb:Below w.heap.size w wa){v7}
  (hown:w7.ownsRow W.heap.size 3 1 v7 ((iI k).length+1) (ivs (iI k)++[.int .i64 x])) (hg:wa.grownBy w7 (vI k).ownBlock) (hl:v7.ownBlock=(vI k).ownBlock\/v7.ownBlock=some wa.heap.size):
  PkI W pp ps bm q0 q1 q2 L v vs (upd vI k v7) (upd iI k (iI k++[x])) (w7.setCell ⟨pp,3+k*2,none⟩ v7):=by
 have hlow:∀g,(vI k).ownBlock=some g->W.heap.size<=g:=fun g e=>((h.idx k hk).lt g e).1
 have hpw:pp<w.heap.size:=(Array.getElem?_eq_some_iff.1 h.box).1;have hsa:=hb.size;have hpl:=h.pl;have hWw:=h.fr.size;have kept:∀b,b<w.heap.size->(vI k).ownBlock≠some b->w7.heap[b]?=w.heap[b]?:=fun b hlt hne=>(hg.block b (by omega) fun e=>hne e.symm).trans (hb.block b hlt)
 have kept2:∀b,b<w.heap.size->(vI k).ownBlock≠some b->b≠pp->(w7.setCell ⟨pp,3+k*2,none⟩ v7).heap[b]?=w.heap[b]?:=fun b hlt hne hp=>(Below.heap_setCell _ _ _ _ hp).trans (kept b hlt hne)
 have hpp7:w7.heap[pp]?=w.heap[pp]?:=kept pp hpw fun e=>by
  have:=hlow pp e;omega
 have hv7:v7.ownBlock≠some pp:=fun e=>by
  rcases hl with h1|h1
  ·have:=hlow pp (h1▸e);omega
  ·rw[h1]at e;injection e with e
   omega
 have hloc:∀x,v7.ownBlock=some x->(vI k).ownBlock=some x\/w.heap.size<=x:=fun x e=>by
  rcases hl with h1|h1
  ·exact .inl (h1▸e)
  ·rw[h1]at e;injection e with e
   omega
 have notint:∀{b:Nat} {cur:Array Value} {T:TypeId} {f:Nat×Nat},w.heap[b]?=some (.cells cur T f)->T≠3->(vI k).ownBlock≠some b:=fun e hT eo=>by
  obtain⟨cur',e2⟩:=h.idx_type hk eo;rw[e]at e2;injection e2 with e2
  injection e2 with _ e2 _
  exact hT e2
 have hlen2:(ivs (iI k)++[Value.int .i64 x])=ivs (iI k++[x]):=by simp[ivs,Gr.iv]
 refine⟨?_,h.pl,h.st.at fun b hs=>?_,fun j hj=>?_,fun g e e2=>?_,fun j hj=>?_,?_⟩
 ·rw[zAU (hpp7.trans h.box) (k:=3+k*2)];rcases(by omega:k=0\/k=1)with rfl|rfl<;>rfl
 ·have hlo:=h.st.lo_of hs;refine kept2 b ?_ (fun eo=>?_) (by omega)
  ·rcases hs with rfl|rfl|e|e
   ·exact h.st.lt
   ·obtain⟨es,c,h3⟩:=h.st.bm_map;exact(Array.getElem?_eq_some_iff.1 h3).1
   ·exact((h.st.row 0 (by decide)).lt b e).2
   ·exact((h.st.row 1 (by decide)).lt b e).2
  ·obtain⟨cur,e2⟩:=h.idx_type hk eo;exact h.st.off e2 (by decide) (by decide) hs
 ·by_cases e:j=k
  ·subst e;rw[upd_same,upd_same,List.length_append,←hlen2];exact Sep.zAE hown fun g e=>Below.heap_setCell _ _ _ _ (fun e2=>hv7 (by rw[e];exact congrArg some e2))
  ·rw[zAB _ _ e,zAB _ _ e];refine Sep.zAE (h.idx j hj) fun g eg=>kept2 g ((h.idx j hj).lt g eg).2 (fun eo=>?_) (fun e3=>?_)
   ·rcases(by omega:(j=0/\k=1)\/(j=1/\k=0))with⟨rfl,rfl⟩|⟨rfl,rfl⟩
    ·exact h.ne g eg eo
    ·exact h.ne g eo eg
   ·have:=((h.idx j hj).lt g eg).1;omega
 ·rcases(by omega:k=0\/k=1)with rfl|rfl
  ·rw[upd_same]at e;rw[zAB _ _ (by decide)]at e2;have h1:=((h.idx 1 (by decide)).lt g e2).2;rcases hloc g e with h2|h2
   ·exact h.ne g h2 e2
   ·omega
  ·rw[upd_same]at e2;rw[zAB _ _ (by decide)]at e;have h1:=((h.idx 0 (by decide)).lt g e).2;rcases hloc g e2 with h2|h2
   ·exact h.ne g e h2
   ·omega
 ·refine⟨(h.dat j hj).1,fun i hi=>?_⟩;obtain⟨u,h1,b,e,h2,h3⟩:=(h.dat j hj).2 i hi;exact⟨u,h1,b,e,(kept2 b (Array.getElem?_eq_some_iff.1 h2).1 (notint h2 (by decide)) (by omega)).trans h2,h3⟩
 ·have f1:Fr (fun x=>x=pp) W wa:=h.fr.trans (.of_below hb) fun x hx=> .inl hx
  have f2:Fr (fun x=>x=pp) W w7:=f1.grown hg fun x e=> .inr (hlow x e)
  exact f2.setCell _ rfl _
theorem PkI.mid(h:PkI W pp ps bm q0 q1 q2 L v vs vI iI w){k}(hk:k<2){w7}(hb:Below w.heap.size w wa)(hg:wa.grownBy w7 (vI k).ownBlock):w7.heap[pp]?=some (.cells (pkc q0 q1 q2 vI) 32 (0,0)):=by
 have hpw:pp<w.heap.size:=(Array.getElem?_eq_some_iff.1 h.box).1;have hsa:=hb.size;refine(hg.block pp (by omega) fun e=>?_).trans ((hb.block pp hpw).trans h.box);have:=((h.idx k hk).lt pp e.symm).1;have:=h.pl;omega
end
def CX(T:Tb)(j:Nat):List (List Int):=if j=0 then zAJ T else if j=1 then zAL T else[]
def kX(ka kg j:Nat):Nat:=if j=0 then ka else kg
def LX(T:Tb)(ka kg j:Nat):List (List Int):=zAP ((CX T j).take (kX ka kg j))
def IX(T:Tb)(ka kg j:Nat):List Int:=(idxs (CX T j)).take (kX ka kg j)
theorem zRc(T){j}(h0:¬j=0)(h1:¬j=1):CX T j=[]:=by
 unfold CX;rw[if_neg h0,if_neg h1]
theorem LX_a{T}{ka kg}(h):upd (LX T ka kg) 0 (putR (LX T ka kg 0) (zAJ T)[ka])=LX T (ka+1) kg:=by
 funext j
 unfold upd LX
 by_cases e:j=0
 ·subst e;simp only[CX,kX,if_true];exact(zBb h).symm
 ·simp only[if_neg e,kX]
theorem LX_g{T}{ka kg}(h):upd (LX T ka kg) 1 (putR (LX T ka kg 1) (zAL T)[kg])=LX T ka (kg+1):=by
 funext j
 unfold upd LX
 by_cases e:j=1
 ·subst e;have h0:¬(1=0):=by decide
  simp only[CX,kX,if_neg h0,if_true];exact(zBb h).symm
 ·simp only[if_neg e]
  by_cases e0:j=0
  ·subst e0
   rfl
  ·rw[zRc T e0 e,List.take_nil,List.take_nil]
theorem IX_a{T}{ka kg}(h):upd (IX T ka kg) 0 (IX T ka kg 0++[(plc (LX T ka kg 0) (zAJ T)[ka]:Int)])=IX T (ka+1) kg:=by
 funext j
 unfold upd IX LX
 by_cases e:j=0
 ·subst e;simp only[CX,kX,if_true];exact(zDk h).symm
 ·simp only[if_neg e,kX]
theorem IX_g{T}{ka kg}(h):upd (IX T ka kg) 1 (IX T ka kg 1++[(plc (LX T ka kg 1) (zAL T)[kg]:Int)])=IX T ka (kg+1):=by
 funext j
 unfold upd IX LX
 by_cases e:j=1
 ·subst e;have h0:¬(1=0):=by decide
  simp only[CX,kX,if_neg h0,if_true];exact(zDk h).symm
 ·simp only[if_neg e]
  by_cases e0:j=0
  ·subst e0
   rfl
  ·rw[zRc T e0 e];simp[idxs]
theorem zEo(T)(j):LX T 0 0 j=[]:=by
 unfold LX kX;split<;>simp[zAP]
theorem zO5(T)(j):IX T 0 0 j=[]:=by
 unfold IX kX;split<;>simp
theorem zUB(T)(ka kg j)(h:(zAJ T).length<=100000)(h2:(zAL T).length<=100000):(LX T ka kg j).length<=100000:=by
 unfold LX;refine Nat.le_trans (zA3 _) ?_;rw[List.length_take];unfold CX;split
 ·omega
 ·split
  ·omega
  ·simp
theorem zMA(T){ka kg}(h:ka<=(zAJ T).length)(h2:kg<=(zAL T).length):(IX T ka kg 0).length=ka/\(IX T ka kg 1).length=kg:=by
 have h0:¬(1=0):=by decide
 constructor
 ·unfold IX kX CX;rw[if_pos rfl,if_pos rfl,List.length_take,zAQ];omega
 ·unfold IX kX CX;rw[if_neg h0,if_neg h0,if_pos rfl,List.length_take,zAQ];omega
theorem zRe(T):LX T (zAJ T).length (zAL T).length 0=zAP (zAJ T)/\LX T (zAJ T).length (zAL T).length 1=zAP (zAL T):=by
 have h0:¬(1=0):=by decide
 constructor
 ·unfold LX kX CX;rw[if_pos rfl,if_pos rfl,List.take_length]
 ·unfold LX kX CX;rw[if_neg h0,if_neg h0,if_pos rfl,List.take_length]
theorem zRd(T):IX T (zAJ T).length (zAL T).length 0=idxs (zAJ T)/\IX T (zAJ T).length (zAL T).length 1=idxs (zAL T):=by
 have h0:¬(1=0):=by decide
 constructor
 ·unfold IX kX CX;rw[if_pos rfl,if_pos rfl,List.take_of_length_le (by rw[zAQ];exact Nat.le_refl _)]
 ·unfold IX kX CX;rw[if_neg h0,if_neg h0,if_pos rfl,List.take_of_length_le (by rw[zAQ];exact Nat.le_refl _)]
theorem PkI.rows{W}{pp ps bm}{q0 q1 q2}{L}{v}{vs}{vI}{iI}{w}(h:PkI W pp ps bm q0 q1 q2 L v vs vI iI w){k}(hk:k<2)(hs:∀r∈L k,r.length<=100000){a}{n c}(hv:v k=.slice a n c):zGi a (L k) w:=fun j hj=>by
 obtain⟨u,h1,b,rfl,h2,h3⟩:=(h.dat k hk).2 j hj;have hr:=h.st.row k hk;rw[hv]at hr
 have hn:n=(L k).length:=by
  obtain⟨_,_,e⟩:=Rw.zAG hr;simp only[Value.slice.injEq]at e;exact e.2.1
 subst hn;obtain⟨g,rfl⟩:=zBW hr (by omega);have t0:=World.ownsRow.cells hr (g:=g) rfl j _ h1;rw[WideShapes.add_plain]at t0;have hl:=hs _ (List.getElem_mem hj);exact⟨g,0,some ⟨b,0,none⟩,_,rfl,t0,zBq h2,Nat.le_refl _,by omega⟩
