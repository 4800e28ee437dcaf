/- Proof. -/
import Derived.Test.YtegeamggbglneaaGreatDoorPk16
import Derived.Deep.OwnRows
import Derived.Test.YtegeamggbglneaaGreatDoorPk07
import Derived.Test.YtegeamggbglneaaGreatDoorItemLay
import Derived.RangeFuncNested
import Derived.RangeFuncLeaves
import Derived.Shelf.Abstract
import Derived.OwnWalkIn
import Derived.TacticsInMore
import Derived.RegionIn
import Derived.LoopNIn
import Derived.LoopIn
set_option maxHeartbeats 4000000
set_option maxRecDepth 100000
set_option linter.unusedVariables false
namespace Go.Proofs.YtegeamggbglneaaGreatDoor
open Go.RowKit Go.Maps
namespace Pk
abbrev Kx:=Nat×ByteArray
def wZ(p:Kx):Prop:=(Lit.int .i64 (p.1:Int)).wf=true/\p.2.size<=maxLen
def kv(p:Kx):Value:=.agg #[.int .i64 (p.1:Int),.string p.2]
def kk(p:Kx):Lit:=.string (keyBytes [.int .i64 (p.1:Int),.string p.2.data.toList])
theorem zVN{x y}(hx:wZ x)(hy:wZ y)(h:kk x=kk y):x=y:=by
 unfold kk at h;simp only[Lit.string.injEq]at h
 have:=keyBytes_inj (l:=[.int .i64 (x.1:Int),.string x.2.data.toList]) (l':=[.int .i64 (y.1:Int),.string y.2.data.toList]) (by simp[Alike,Lit.sameKind])
  (fun a ha=>by
   simp only[List.mem_cons,List.not_mem_nil,or_false]at ha;rcases ha with rfl|rfl
   ·exact hx.1
   ·have:=hx.2;simp only[Lit.keyWf]
    simpa[maxLen]using this)
  (fun a ha=>by
   simp only[List.mem_cons,List.not_mem_nil,or_false]at ha;rcases ha with rfl|rfl
   ·exact hy.1
   ·have:=hy.2;simp only[Lit.keyWf]
    simpa[maxLen]using this) h
 simp only[List.cons.injEq,Lit.int.injEq,Lit.string.injEq,true_and,and_true]at this;obtain⟨h1,h2⟩:=this;obtain⟨a,b⟩:=x;obtain⟨a',b'⟩:=y;dsimp only at h1 h2;have e1:a=a':=by omega
 have e2:b=b':=by
  cases b;cases b';simp only[ByteArray.mk.injEq];exact Array.toList_inj.1 h2
 rw[e1,e2]
structure Kr (P:Program) (K:TypeId):Prop where
 law:Keyed P K
 key:∀x,wZ x->keyOf P K (kv x)=some (kk x)
theorem zWY{P}{K}(fa fb)(law:Keyed P K)(hu:P.underlying K=some (.struct #[fa,fb]))(ha:P.underlying fa.type=some (.int .i64))(hb:P.underlying fb.type=some .string)
  (vr:P.keyType K=true) (hcells:P.cellsOf K=2) (ca:P.cellsOf fa.type=1) (cb:P.cellsOf fb.type=1) (oa:fa.offset=0) (ob:fb.offset=1)
  (na:(fa.name != "_")=true) (nb:(fb.name != "_")=true) (n) (hn:P.types.size=n+1):Kr P K:=by
 refine⟨law,fun x hx=>?_⟩;unfold keyOf kv;rw[hu];simp only[vr,Bool.true_and];rw[if_pos (by simp[Value.formed,hu,hcells])];rw[hn];have h2:=hx.2;simp[Program.keyLits,hu,hcells,ca,cb,oa,ob,ha,hb,na,nb,hx.1,h2,Value.cells,kk]
section
variable {P:Program} {K T E:TypeId}
def fM(P:Program)(K E:TypeId)(b n:Nat)(X:Kx->Option Int)(w:World):Prop:=
 ∃D:DataW Unit,w.ownsMap P K (plainElem P E) b n D/\∀x,wZ x->has D (kk x)=(X x).isSome/\D.atKey (kk x) (.lit (.int .i64 0))=.lit (.int .i64 ((X x).getD 0))
theorem fM.made(w:World)(P)(K E):fM P K E w.heap.size 0 (fun _=>none) (w.alloc (.map #[] 0)):=
 ⟨_,World.ownsMap_made w P K _,fun x _=>⟨rfl,rfl⟩⟩
theorem fM.lt{b n}{X}{w}(h:fM P K E b n X w):b<w.heap.size:=by
 obtain⟨D,h,_⟩:=h;exact h.lt
theorem fM.keep{b n}{X}{w w'}(h:fM P K E b n X w)(hb:w'.heap[b]?=w.heap[b]?):fM P K E b n X w':=by
 obtain⟨D,h,k⟩:=h;exact⟨D,Sep.ownsMap_at h hb,k⟩
theorem fM.store{b n}{X}{w}(h:fM P K E b n X w)(k:Kr P K)(ht:P.underlying T=some (.map K E))(he:P.underlying E=some (.int .i64))(hn:n<maxLen){x}(hx:wZ x){t}(hw:(Lit.int .i64 t).wf=true):
  ∃w',(Instr.mapUpdate T (.map (some b)) (kv x) (.int .i64 t)).run P w=.ok () w'/\fM P K E b (n+1) (fun y=>if y=x then some t else X y) w'/\w.mapTurned w' b:=by
 obtain⟨D,ho,kd⟩:=h;obtain⟨w',hrun,h1,h2⟩:=ho.store k.law ht hn (k.key x hx) (plainElem_int he hw);refine⟨w',hrun,⟨_,h1,fun y hy=>?_⟩,h2⟩
 by_cases e:y=x
 ·subst e;show _=(if y=y then some t else X y).isSome/\_=DataW.lit (Lit.int .i64 ((if y=y then some t else X y).getD 0));rw[if_pos rfl,has_put_same ho.isMap (k.law.key (k.key y hy)),atKey_put_same ho.isMap (k.law.key (k.key y hy))];exact⟨rfl,rfl⟩
 ·have hne:kk y≠kk x:=fun q=>e (zVN hy hx q)
  show _=(if y=x then some t else X y).isSome/\_=DataW.lit (Lit.int .i64 ((if y=x then some t else X y).getD 0));rw[if_neg e,has_put_other hne,atKey_put_other hne];exact kd y hy
theorem fM.look{b n}{X}{w}(h:fM P K E b n X w)(k:Kr P K)(ht:P.underlying T=some (.map K E))(he:P.underlying E=some (.int .i64))(hz:(zeroValue E).run P w=.ok (.int .i64 0) w){x}(hx:wZ x):
  (Instr.lookup T (.map (some b)) (kv x) true).run P w=.ok (.tuple #[.int .i64 ((X x).getD 0),.bool (X x).isSome]) w:=by
 obtain⟨D,ho,kd⟩:=h;have hzd:plainElem (H:=Unit) P E (.int .i64 0)=some (.lit (.int .i64 0),[]):=plainElem_int he (by decide);obtain⟨v,ps,hrun,hR⟩:=ho.look_ok k.law ht hz hzd (k.key x hx);rw[(kd x hx).2]at hR;rw[(kd x hx).1]at hrun
 have hv:v=.int .i64 ((X x).getD 0):=by
  unfold plainElem at hR;rw[he]at hR;cases v<;>simp at hR
  simp_all
 rw[hrun,hv]
end
def tx(r:List Int):ByteArray:=strOfNums (txt r)
def mH(r:List Int):Prop:=(∀c∈r,Cd c)/\r.length<=100000
theorem YZ{r s}(hr:mH r)(hs:mH s)(h:tx r=tx s):r=s:=by
 have h':(strOfNums (txt r)).data.toList=(strOfNums (txt s)).data.toList:=by unfold tx at h;rw[h]
 rw[strOfNums_data,strOfNums_data]at h';exact zUZ (Au.bytes_inj (Ht hr.1) (Ht hs.1) h')
theorem zWr{r}(h:mH r)(k)(hk:k<=1):wZ (k,tx r):=by
 refine⟨?_,?_⟩
 ·show(Lit.int .i64 (k:Int)).wf=true;rcases(by omega:k=0\/k=1)with rfl|rfl<;>decide
 ·unfold tx;rw[strOfNums_size,sF];have:=h.2;unfold maxLen;omega
def mq(L:List (List Int))(r:List Int):Option Int:=if r∈L then some (L.idxOf r:Int)else none
def Told(L0 L1:List (List Int))(X:Kx->Option Int):Prop:=∀r,mH r->X (0,tx r)=mq L0 r/\X (1,tx r)=mq L1 r
theorem told_none:Told [] [] (fun _=>none):=fun r _=>⟨rfl,rfl⟩
theorem Vl{L}{r}(h:r∉L)(y):mq (L++[r]) y=if y=r then some (L.length:Int)else mq L y:=by
 unfold mq
 by_cases e:y=r
 ·subst e;rw[if_pos (List.mem_append_right _ (List.mem_singleton.2 rfl)),if_pos rfl,List.idxOf_append,if_neg h];simp
 ·rw[if_neg e]
  by_cases hy:y∈L
  ·rw[if_pos (List.mem_append_left _ hy),if_pos hy,List.idxOf_append,if_pos hy]
  ·rw[if_neg hy,if_neg];rw[List.mem_append,List.mem_singleton];exact fun q=>q.elim hy e
theorem Told.LQ{L0 L1}{X}(h:Told L0 L1 X){r}(hr:mH r)(hn:r∉L0):Told (L0++[r]) L1 (fun y=>if y=(0,tx r)then some (L0.length:Int)else X y):=fun s hs=>by
 constructor
 ·rw[Vl hn];show(if((0,tx s):Kx)=(0,tx r)then some _ else _)= _
  by_cases e:s=r
  ·subst e;rw[if_pos rfl,if_pos rfl]
  ·rw[if_neg (fun q:((0,tx s):Kx)=(0,tx r)=>e (YZ hs hr (congrArg Prod.snd q))),if_neg e];exact(h s hs).1
 ·show(if((1,tx s):Kx)=(0,tx r)then _ else _)= _;rw[if_neg (fun q=>absurd (Prod.mk.inj q).1 (by decide))];exact(h s hs).2
theorem Told.LU{L0 L1}{X}(h:Told L0 L1 X){r}(hr:mH r)(hn:r∉L1):Told L0 (L1++[r]) (fun y=>if y=(1,tx r)then some (L1.length:Int)else X y):=fun s hs=>by
 constructor
 ·show(if((0,tx s):Kx)=(1,tx r)then _ else _)= _;rw[if_neg (fun q=>absurd (Prod.mk.inj q).1 (by decide))];exact(h s hs).1
 ·rw[Vl hn];show(if((1,tx s):Kx)=(1,tx r)then some _ else _)= _
  by_cases e:s=r
  ·subst e;rw[if_pos rfl,if_pos rfl]
  ·rw[if_neg (fun q:((1,tx s):Kx)=(1,tx r)=>e (YZ hs hr (congrArg Prod.snd q))),if_neg e];exact(h s hs).2
end Pk
namespace Pk
open Gr (cell_later boxed)
open Im (bG)
def Fl(b:Nat)(T:TypeId)(cs:List Value)(n:Nat)(w:World):Prop:=∃cur,w.heap[b]?=some (.cells cur T (0,0))/\cur.size=cs.length/\∀j,j<n->cur[j]?=cs[j]?
section
variable {b n:Nat} {T:TypeId} {cs:List Value} {w w':World}
theorem Fl.has(h:Fl b T cs n w){j}(hj:j<cs.length):∃u,w.cell? ⟨b,j,none⟩=some u:=by
 obtain⟨cur,h1,h2,h3⟩:=h;exact⟨_,aF h1 (k:=j) (by omega)⟩
theorem Fl.free(h:Fl b T cs n w)(j):w.frozen? ⟨b,j,none⟩=false:=by
 obtain⟨cur,h1,h2,h3⟩:=h;exact fu h1
theorem Fl.lt(h:Fl b T cs n w):b<w.heap.size:=by
 obtain⟨cur,h1,h2,h3⟩:=h;exact(Array.getElem?_eq_some_iff.1 h1).1
theorem Fl.went(h:Fl b T cs n w)(hb:Below w.heap.size w w'):Fl b T cs n w':=by
 obtain⟨cur,h1,h2⟩:=h;exact⟨cur,(hb.block b (Array.getElem?_eq_some_iff.1 h1).1).trans h1,h2⟩
theorem Fl.put(h:Fl b T cs n w){u}(hu:cs[n]?=some u):Fl b T cs (n+1) (w.setCell ⟨b,n,none⟩ u):=by
 have hn:n<cs.length:=(List.getElem?_eq_some_iff.1 hu).1;obtain⟨cur,h1,h2,h3⟩:=h;refine⟨_,ft h1 _,by simp[h2],fun j hj=>?_⟩
 by_cases e:j=n
 ·subst e;rw[Array.getElem?_setIfInBounds_self_of_lt (by omega),hu]
 ·rw[Array.getElem?_setIfInBounds_ne (fun e2=>e e2.symm)];exact h3 j (by omega)
theorem Fl.all(h:Fl b T cs cs.length w):w.heap[b]?=some (.cells cs.toArray T (0,0)):=by
 obtain⟨cur,h1,h2,h3⟩:=h;rw[h1]
 congr 2
 apply Array.ext
 ·rw[h2];simp
 ·intro i hi hi2;have e:=h3 i (by omega);rw[Array.getElem?_eq_getElem hi,List.getElem?_eq_getElem (by omega)]at e
  simpa using Option.some.inj e
end
theorem Fl.made(w:World)(T)(c cs':List Value)(o)(ho:o.size=cs'.length):Fl w.heap.size T cs' 0 (w.alloc (.cells o T)):=⟨o,gJ _ _,ho,fun j hj=>absurd hj (Nat.not_lt_zero j)⟩
def Ax(T:TypeId)(n:Nat)(cs:List Value)(w:World)(e:Ending)(w':World):Prop:=
 ∃b,e=.returned (.slice (some ⟨b,0,none⟩) n n)/\w.heap.size<=b/\w'.heap[b]?=some (.cells cs.toArray T (0,0))/\Below w.heap.size w w'
theorem zTV{w:World}{b}{cs:List Value}{T}(h:w.heap[b]?=some (.cells cs.toArray T (0,0))){j}{u}(hu:cs[j]?=some u):w.cell? ⟨b,j,none⟩=some u:=by
 obtain⟨hj,e⟩:=List.getElem?_eq_some_iff.1 hu;rw[aF h (k:=j) (by simpa using hj)];simp[e]
theorem GH{w}{b}{cs}{T}(h:w.heap[b]?=some (.cells cs.toArray T (0,0))):Sep.Reads (some ⟨b,0,none⟩) cs w:=fun i hi=>⟨b,0,rfl,by rw[Nat.zero_add];exact zTV h (List.getElem?_eq_getElem hi)⟩
theorem Wn:(Tryz.prog.info? 48).map (fun i=>(i.zero,i.size,i.bytes))=some (some (.int .u16 0),1,2):=by kernel_rfl
theorem Ww(n:Nat)(hn:n<=100000)(w):
  (Instr.makeSlice 66 (.int .i64 (n:Int)) (.int .i64 (n:Int))).run Tryz.prog w=.ok (.slice (some ⟨w.heap.size,0,none⟩) n n) (w.alloc (.cells (madeCells #[.int .u16 0] n) 48)):=
 run_make_row' 66 48 (.int .u16 0) 2 Tryz.underlying66 Wn rfl .i64 .i64 n (by omega) (by omega) w
theorem zH6(L:List (Int×Int))(a:Option Addr)(c:Nat)(w:World)(h:bG a L w)(hl:L.length<=100000)(hp:∀x∈L,0<=x.1/\x.1<=3/\0<=x.2/\x.2<16384):
  Calls Tryz.prog 29 #[.slice a L.length c,.func (.func 30) #[] #[]] w (Ax 48 L.length (L.map fun x=>Value.int .u16 (ia x)) w):=by
 have hmk:=fun w=>Ww L.length hl w
 have B1:=af (boxed w (.cells (madeCells #[.int .u16 0] L.length) 48));have F0:=af (show Fl w.heap.size 48 (L.map fun x=>Value.int .u16 (ia x)) 0 (w.alloc (.cells (madeCells #[.int .u16 0] L.length) 48))from Fl.made _ _ [] _ _ (by rw[size_madeCells];simp));have HR:=af (fun w1 (b:Below w.heap.size w w1)=>h.went b);have HP:=af hp;have HC:=af (fun k (hk:k<L.length)=>(show(L.map fun x=>Value.int .u16 (ia x))[k]?=some (Value.int .u16 (ia L[k]))from by simp[hk]));have HE:=af (show(L.map fun x=>Value.int .u16 (ia x)).length=L.length by simp);clear hp h;generalize (L.map fun x=>Value.int .u16 (ia x))=cs at*;go_enter Tryz.func29,Tryz.ntmps29;go_wp2_with fail;generalize hw2:w.alloc (.cells (madeCells #[.int .u16 0] L.length) 48)=w2 at*;clear hw2 hmk;go_loopw [13] (fun v wr=>∃k:Nat,v=.int .i64 (k:Int)/\k<=L.length/\Fl w.heap.size 48 cs k wr/\Sep.Fr (fun x=>x=w.heap.size) w2 wr) (fun v _=>L.length-(intOf v).toNat)
 case atStart=>exact⟨0,rfl,Nat.zero_le _,F0.out,.refl _ _⟩
 case round=>
  obtain⟨k,rfl,hk,hF,hf⟩:=hrel;have FF:=af hF;have BR:=af (B1.out.trans (hf.below (m:=w.heap.size) (fun x hx=>by omega) B1.out.size));have FR:=af hf;clear hF hf
  by_cases hlt:k<L.length
  ·obtain⟨rb,ro,rfl,p0,p1⟩:=(HR.out wr BR.out).at k hlt;have I5:=af (HC.out k hlt);have hx:=HP.out _ (List.getElem_mem hlt);generalize L[k]=x at*;have CA:=af (fun w1=>Tz x hx w1);have hkn:(k:Int)<(L.length:Int):=by omega
   obtain⟨u,hu⟩:=FF.out.has (show k<cs.length by rw[HE.out];exact hlt);have hpw:w.heap.size<wr.heap.size:=FF.out.lt;have ff:=FF.out.free k;obtain⟨x1,x2⟩:=x;dsimp only at p0 p1;generalize ia (x1,x2)=z at*;have bb:=boxed wr (.cells #[.int .i64 x1,.int .i64 x2] 57);have FB:=af (FF.out.went bb);have RB:=af (FR.out.trans (.of_below bb) (fun x hx=> .inl hx));have hub:=cell_later bb hu;have fb:=FB.out.free k;clear hu ff bb;go_wp2_with (go_at_call 30;refine(CA.out _).mono ?_;rintro e w3 ⟨rfl,hb3⟩;have F3:=af (FB.out.went hb3);have R3:=af (RB.out.trans (.of_below hb3) (fun x hx=> .inl hx));have hu3:=cell_later hb3 hub;have f4:=F3.out.free k;clear hb3);have F4:=af (F3.out.put I5.out);have R4:=af (R3.out.setCell ⟨w.heap.size,k,none⟩ rfl (Value.int .u16 z));go_roundw
   case rel=>exact⟨k+1,by go_num,by omega,F4.out,R4.out⟩
   case measure=>first|(simp[intOf];omega)|omega
  ·obtain rfl:k=L.length:=by omega
   have FE:=af (show Fl w.heap.size 48 cs cs.length wr by rw[HE.out];exact FF.out);go_wp2;go_ret;exact⟨w.heap.size,rfl,Nat.le_refl _,FE.out.all,BR.out⟩
theorem zGw(L:List (Int))(a:Option Addr)(c:Nat)(w:World)(h:dW a L w)(hl:L.length<=100000)(hp:∀x∈L, -1<=x/\x<65535):
  Calls Tryz.prog 31 #[.slice a L.length c,.func (.func 32) #[] #[]] w (Ax 48 L.length (L.map fun x=>Value.int .u16 (lj x)) w):=by
 have hmk:=fun w=>Ww L.length hl w
 have B1:=af (boxed w (.cells (madeCells #[.int .u16 0] L.length) 48));have F0:=af (show Fl w.heap.size 48 (L.map fun x=>Value.int .u16 (lj x)) 0 (w.alloc (.cells (madeCells #[.int .u16 0] L.length) 48))from Fl.made _ _ [] _ _ (by rw[size_madeCells];simp));have HR:=af (fun w1 (b:Below w.heap.size w w1)=>h.went b);have HP:=af hp;have HC:=af (fun k (hk:k<L.length)=>(show(L.map fun x=>Value.int .u16 (lj x))[k]?=some (Value.int .u16 (lj L[k]))from by simp[hk]));have HE:=af (show(L.map fun x=>Value.int .u16 (lj x)).length=L.length by simp);clear hp h;generalize (L.map fun x=>Value.int .u16 (lj x))=cs at*;go_enter Tryz.func31,Tryz.ntmps31;go_wp2_with fail;generalize hw2:w.alloc (.cells (madeCells #[.int .u16 0] L.length) 48)=w2 at*;clear hw2 hmk;go_loopw [13] (fun v wr=>∃k:Nat,v=.int .i64 (k:Int)/\k<=L.length/\Fl w.heap.size 48 cs k wr/\Sep.Fr (fun x=>x=w.heap.size) w2 wr) (fun v _=>L.length-(intOf v).toNat)
 case atStart=>exact⟨0,rfl,Nat.zero_le _,F0.out,.refl _ _⟩
 case round=>
  obtain⟨k,rfl,hk,hF,hf⟩:=hrel;have FF:=af hF;have BR:=af (B1.out.trans (hf.below (m:=w.heap.size) (fun x hx=>by omega) B1.out.size));have FR:=af hf;clear hF hf
  by_cases hlt:k<L.length
  ·obtain⟨rb,ro,rfl,p0⟩:=(HR.out wr BR.out).at hlt;have I5:=af (HC.out k hlt);have hx:=HP.out _ (List.getElem_mem hlt);generalize L[k]=x at*;have CA:=af (fun w1=>zID x hx w1);have hkn:(k:Int)<(L.length:Int):=by omega
   obtain⟨u,hu⟩:=FF.out.has (show k<cs.length by rw[HE.out];exact hlt);have hpw:w.heap.size<wr.heap.size:=FF.out.lt;have ff:=FF.out.free k;generalize lj x=z at*;go_wp2_with (go_at_call 32;refine(CA.out _).mono ?_;rintro e w3 ⟨rfl,rfl⟩;have F3:=FF;have R3:=FR);have F4:=af (F3.out.put I5.out);have R4:=af (R3.out.setCell ⟨w.heap.size,k,none⟩ rfl (Value.int .u16 z));go_roundw
   case rel=>exact⟨k+1,by go_num,by omega,F4.out,R4.out⟩
   case measure=>first|(simp[intOf];omega)|omega
  ·obtain rfl:k=L.length:=by omega
   have FE:=af (show Fl w.heap.size 48 cs cs.length wr by rw[HE.out];exact FF.out);go_wp2;go_ret;exact⟨w.heap.size,rfl,Nat.le_refl _,FE.out.all,BR.out⟩
end Pk
namespace Pk
open Gr (boxed bg)
open Au (kz tF uz yl Mm)
theorem zLi(n:Nat)(hn:n<=100000)(w):
  (Instr.makeSlice 39 (.int .i64 0) (.int .i64 (2*(n:Int)))).run Tryz.prog w=.ok (.slice (some ⟨w.heap.size,0,none⟩) 0 (2*n)) (w.alloc (.cells (madeCells #[.int .u8 0] (2*n)) 5)):=by
 obtain⟨i0,hi,hz0,hz1,hz2⟩:=info_parts uz;have hr:=run_make (P:=Tryz.prog) w 39 5 i0 (.int .u8 0) Tryz.underlying39 hi hz0 .i64 .i64 0 (2*(n:Int)) (by omega) (by omega) (by rw[hz2];omega) (by omega);rw[show(2*(n:Int)).toNat=2*n by omega]at hr;rw[hr,hz1];simp
 rfl
theorem zUY(w:World)(n)(hn:n=w.heap.size)(x y)(t):∀j u,[x,y][j]?=some u->(w.alloc (.cells #[x,y] t)).cell? ((⟨n,0,none⟩:Addr).add j)=some u:=by
 intro j u hj;subst hn;rw[WideShapes.add_plain]
 match j,hj with
 |0,hj=>exact bg rfl (by simpa using hj)
 |1,hj=>exact bg rfl (by simpa using hj)
theorem zLE{base}{r:List Int}{v}{w}{k}(hk){p q}(e:p=r[k] / 256/\q=r[k] % 256){n}(hn:n=(txt (r.take k)).length+2)(h:w.ownsRow base 5 1 v n (tF (txt (r.take k))++[.int .u8 p,.int .u8 q])):kz base (txt (r.take (k+1))) v w:=by
 subst hn;obtain⟨rfl,rfl⟩:=e;unfold kz;rw[zR2 hk,Mm,List.length_append];exact h
theorem zRy(r:List Int)(a:Option Addr)(c:Nat)(w:World)(h:fy a r w)(hr:mH r):
  Calls Tryz.prog 76 #[.slice a r.length c] w (Gr.Is (.string (tx r)) w):=by
 obtain⟨i0,hi,hz0,hz1,hz2⟩:=info_parts uz;have hmk:=fun w=>zLi r.length hr.2 w
 have hl:=hr.2;have HR:=af (fun w1 (b:Below w.heap.size w w1)=>h.went b);have HP:=af hr.1;have B1:=af (boxed w (.cells (madeCells #[.int .u8 0] (2*r.length)) 5));have R0:=af (show kz w.heap.size (txt (r.take 0)) (.slice (some ⟨w.heap.size,0,none⟩) 0 (2*r.length)) (w.alloc (.cells (madeCells #[.int .u8 0] (2*r.length)) 5))from World.ownsRow_made w _ _ (Nat.le_refl _) (by unfold maxLen;omega) (by rw[size_madeCells];omega));have hw2:IntKind.i64.wrap (2*(r.length:Int))=2*(r.length:Int):=by rw[IntKind.wrap_i64];omega
 clear h hr;go_enter Tryz.func76,Tryz.ntmps76;go_wp2_with fail;generalize hq:w.alloc (.cells (madeCells #[.int .u8 0] (2*r.length)) 5)=w2 at*;clear hq hmk;go_loopw [3,12] (fun v i wr=>∃j:Nat,j<=r.length/\i=.int .i64 (j:Int)/\kz w.heap.size (txt (r.take j)) v wr/\Below w.heap.size w wr) (fun _ i _=>r.length-(intOf i).toNat)
 case atStart=>exact⟨0,Nat.zero_le _,rfl,R0.out,B1.out⟩
 case round=>
  obtain⟨j,hj,rfl,hB,hW⟩:=hrel;obtain⟨av,cv,rfl⟩:=hB.shape
  by_cases hlt:j<r.length
  ·obtain⟨b,o,rfl,c0⟩:=(HR.out wr hW).at hlt;have hx:=HP.out _ (List.getElem_mem hlt);have HM:=af (fun(v:Value) (w':World) (n:Nat) (p q:Int) e hn h=>zLE (base:=w.heap.size) (v:=v) (w:=w') hlt (p:=p) (q:=q) (n:=n) e hn h)
   have hl2:(txt (r.take j)).length<=200000:=by
    rw[sF,List.length_take];omega
   have B:=af hB;have W:=af hW;clear hB hW;generalize r[j]=x at*;unfold Cd at hx;obtain⟨n,rfl⟩:∃n:Nat,x=(n:Int):=⟨x.toNat,by omega⟩;have hjl:(j:Int)<(r.length:Int):=by omega
   generalize txt (r.take j)=X at B HM hl2;have jV:=af (Gr.step W.out (boxed wr (.cells #[.int .u8 ((n:Int) / 256),.int .u8 ((n:Int) % 256)] 5)));have RB:=af (B.out.went (boxed wr (.cells #[.int .u8 ((n:Int) / 256),.int .u8 ((n:Int) % 256)] 5)));have NW:=af (zUY wr wr.heap.size rfl (.int .u8 ((n:Int) / 256)) (.int .u8 ((n:Int) % 256)) 5);have hsz:=jV.out.size;have I4:=af (show∀g,(Value.slice av X.length cv).ownBlock=some g->w.heap.size<=g from fun g hg=>(World.ownsRow.lt B.out g hg).1);clear B W;have hx2:=hx.2;go_wp2_with (at_builtin;refine wpList_append_own_at _ rfl _ _ 39 rfl w.heap.size 5 i0 (.int .u8 0) 1 1 Tryz.underlying39 hi hz0 hz1 hz2 rfl (by decide) _ _ _ rfl RB.out ⟨wr.heap.size,0,none⟩ 2 2 [.int .u8 ((n:Int) / 256),.int .u8 ((n:Int) % 256)] rfl rfl NW.out (by simp[Value.oneCell']) (by unfold maxLen;omega) (by omega) hsz ?_;intro v' w' hown hg _ _;have HO:=af hown;have HG:=af (jV.out.trans (yl hg hsz I4.out));clear hown hg);go_roundw
   case rel=>exact⟨j+1,by omega,by go_num,HM.out _ _ _ _ _ ⟨rfl,rfl⟩ rfl HO.out,HG.out⟩
   case measure=>simp[intOf];omega
  ·have hE:j=r.length:=by omega
   subst hE;rw[List.take_length]at hB;rw[List.take_length];have T:=hB.text;have HK:=af (show strOfNums (txt r)=tx r from rfl);generalize txt r=X at*;generalize strOfNums X=s at*;go_wp2;have e:=HK.out;subst e;go_ret;exact⟨rfl,hW⟩
end Pk
namespace Pk
open Gr (cell_later boxed drawn Mu New aN)
theorem Nf:(Tryz.prog.info? 57).map (fun i=>(i.zero,i.size,i.bytes))=some (some (.agg #[.int .i64 0,.int .i64 0]),2,16):=by kernel_rfl
theorem Vf(n:Nat)(hn:n<=100000)(w):
  (Instr.makeSlice 53 (.int .i64 (n:Int)) (.int .i64 (n:Int))).run Tryz.prog w=.ok (.slice (some ⟨w.heap.size,0,none⟩) n n) (w.alloc (.cells (madeCells #[.int .i64 0,.int .i64 0] (n*2)) 57)):=by
 obtain⟨i0,hi,hz0,hz1,hz2⟩:=info_parts Nf;have hr:=run_make (P:=Tryz.prog) w 53 57 i0 (.agg #[.int .i64 0,.int .i64 0]) Tryz.underlying53 hi hz0 .i64 .i64 (n:Int) (n:Int) (by omega) (Int.le_refl _) (by rw[hz2];omega) (by omega);rw[show((n:Int)).toNat=n by omega]at hr;rw[hr,hz1]
 rfl
def zV9(r:Int×List Int)(w:World)(e:Ending)(w':World):Prop:=
 ∃a c,e=.returned (.agg #[.int .i64 r.1,.slice a r.2.length c])/\dW a r.2 w'/\New a w/\Below w.heap.size w w'
theorem zPz(x:Int)(l:List Int)(a:Option Addr)(c:Nat)(w:World)(h:dW a l w)(hl:l.length<=17592186044416):
  Calls Tryz.prog 74 #[.agg #[.int .i64 x,.slice a l.length c]] w (zV9 (x,l) w):=by
 have b1:=boxed w (.cells #[.int .i64 x,.slice a l.length c] 55);have b2:=boxed (w.alloc (.cells #[.int .i64 x,.slice a l.length c] 55)) (.cells #[.int .i64 0,.slice none 0 0] 55);have B2:=af (Gr.step b1 b2);have H1:=af ((b2.block w.heap.size (by rw[World.size_alloc];exact Nat.lt_succ_self _)).trans (gJ w (.cells #[.int .i64 x,.slice a l.length c] 55)));have H2:=af (gJ (w.alloc (.cells #[.int .i64 x,.slice a l.length c] 55)) (.cells #[.int .i64 0,.slice none 0 0] 55));rw[World.size_alloc]at H2;have CL:=af (fun w1 (b:Below w.heap.size w w1)=>Mu a l c w1 (h.went b) hl);clear h b1 b2;go_enter Tryz.func74,Tryz.ntmps74;go_wp2_with fail;generalize (w.alloc (.cells #[.int .i64 x,.slice a l.length c] 55)).alloc (.cells #[.int .i64 0,.slice none 0 0] 55)=w2 at*;have q0:=aF H1.out (k:=0) (by simp);have q1:=aF H1.out (k:=1) (by simp);have q2:=aF H2.out (k:=0) (by simp);have q3:=aF H2.out (k:=1) (by simp);have q4:=fu (k:=0) H2.out;have q5:=fu (k:=1) H2.out;simp only[List.getElem_toArray,List.getElem_cons_zero,List.getElem_cons_succ]at q0 q1 q2 q3;have Cu:w.heap.size+1<w2.heap.size:=(Array.getElem?_eq_some_iff.1 H2.out).1
 have HQ:=af (show∀w',Below w2.heap.size w2 w'->w'.cell? ⟨w.heap.size,0,none⟩=some (.int .i64 x)/\w'.cell? ⟨w.heap.size,1,none⟩=some (.slice a l.length c)/\Below w.heap.size w w'
  from fun w' hb=>⟨cell_later hb q0,cell_later hb q1,Gr.step B2.out hb⟩)
 have HT:=af (show∀w' u v,Below w2.heap.size w2 w'->((w'.setCell ⟨w.heap.size+1,0,none⟩ u).setCell ⟨w.heap.size+1,1,none⟩ v).cell? ⟨w.heap.size,0,none⟩=some (.int .i64 x)/\((w'.setCell ⟨w.heap.size+1,0,none⟩ u).setCell ⟨w.heap.size+1,1,none⟩ v).cell? ⟨w.heap.size,1,none⟩=some (.slice a l.length c)/\Below w.heap.size w ((w'.setCell ⟨w.heap.size+1,0,none⟩ u).setCell ⟨w.heap.size+1,1,none⟩ v)
  from fun w' u v hb=>⟨by rw[World.cell?_setCell_other _ _ _ _ (by intro e;simp at e),World.cell?_setCell_other _ _ _ _ (by intro e;simp at e)];exact cell_later hb q0,by rw[World.cell?_setCell_other _ _ _ _ (by intro e;simp at e),World.cell?_setCell_other _ _ _ _ (by intro e;simp at e)];exact cell_later hb q1,
   ((Gr.step B2.out hb).setCell (Nat.le_succ _) _).setCell (Nat.le_succ _) _⟩)
 have CQ:=af (fun w1 (k:Below w2.heap.size w2 w1)=>CL.out w1 (Gr.step B2.out k));have gh:=drawn w2;clear CL
 go_region_held3 (fun w'=>w'.cell? ⟨w.heap.size,0,none⟩=some (.int .i64 x)/\w'.cell? ⟨w.heap.size,1,none⟩=some (.slice a l.length c)/\Below w.heap.size w w')
  (first|exact HQ.out _ (by assumption)|exact HT.out _ _ _ (by assumption))
  (first
   |(go_at_call 75;refine(CQ.out _ gh).mono ?_;rintro e wn ⟨a',c',rfl,hr,hnew,hb⟩;have Aq:=af hr;have HN:=af hnew;have kB:Below w2.heap.size w2 wn:=Gr.step gh hb;have z2:=cell_later kB q2;have z3:=cell_later kB q3;have z4:=Gr.pU kB q4 q2;have z5:=Gr.pU kB q5 q2;clear hr hnew hb)
   |fail)
 go_wp2
 have f0:((wn.setCell ⟨w.heap.size+1,0,none⟩ (.int .i64 x)).setCell ⟨w.heap.size+1,1,none⟩ (.slice a' l.length c')).cell? ⟨w.heap.size+1,0,none⟩=some (.int .i64 x):=by
  rw[World.cell?_setCell_other _ _ _ _ (by intro e;simp at e)];exact World.cell?_setCell_same _ _ _ z2
 have f1:((wn.setCell ⟨w.heap.size+1,0,none⟩ (.int .i64 x)).setCell ⟨w.heap.size+1,1,none⟩ (.slice a' l.length c')).cell? ⟨w.heap.size+1,1,none⟩=some (.slice a' l.length c'):=by
  have y3:(wn.setCell ⟨w.heap.size+1,0,none⟩ (.int .i64 x)).cell? ⟨w.heap.size+1,1,none⟩=some (.slice none 0 0):=by
   rw[World.cell?_setCell_other _ _ _ _ (by intro e;simp at e)];exact z3
  exact World.cell?_setCell_same _ _ _ y3
 have HF:=af (show Sep.Reads a' (aN l) ((wn.setCell ⟨w.heap.size+1,0,none⟩ (.int .i64 x)).setCell ⟨w.heap.size+1,1,none⟩ (.slice a' l.length c'))from Aq.out.keep fun b' o' e'=>by
  have hn:w2.heap.size<=b':=HN.out _ e'
  rw[Below.heap_setCell _ _ _ _ (by simp;omega),Below.heap_setCell _ _ _ _ (by simp;omega)])
 have hnw:New a' w:=fun y e=>by
  have:=HN.out y e;have:w2.heap.size<=y.block:=this;omega
 exact bodyPost_ret (v:=.agg #[.int .i64 x,.slice a' l.length c']) (by simp[results,Tryz.results74,go_sem,f0,f1]) rfl ⟨_,_,rfl,HF.out,hnw,(HT.out _ _ _ kB).2.2⟩
structure eW (X:List (Int×List Int)) (b k:Nat) (w:World):Prop where
 blk:∃cur,w.heap[b]?=some (.cells cur 55 (0,0))/\cur.size=X.length*2
 els:∀j (h:j<X.length),j<k->∃ra rc,w.cell? ⟨b,j*2,none⟩=some (.int .i64 X[j].1)/\w.cell? ⟨b,j*2+1,none⟩=some (.slice ra X[j].2.length rc)/\dW ra X[j].2 w/\(∀y,ra=some y->b<y.block)/\X[j].2.length<=17592186044416
section
variable {X:List (Int×List Int)} {b k:Nat} {w w':World}
theorem eW.lt(h:eW X b k w):b<w.heap.size:=by
 obtain⟨cur,h1,_⟩:=h.blk;exact(Array.getElem?_eq_some_iff.1 h1).1
theorem eW.free(h:eW X b k w)(j):w.frozen? ⟨b,j,none⟩=false:=by
 obtain⟨cur,h1,_⟩:=h.blk;exact fu h1
theorem eW.has(h:eW X b k w){j}(hj:j<X.length*2):∃u,w.cell? ⟨b,j,none⟩=some u:=by
 obtain⟨cur,h1,h2⟩:=h.blk;exact⟨_,aF h1 (k:=j) (by omega)⟩
theorem eW.went(h:eW X b k w)(hb:Below w.heap.size w w'):eW X b k w':=by
 have hl:=h.lt;obtain⟨cur,h1,h2⟩:=h.blk;refine⟨⟨cur,(hb.block b hl).trans h1,h2⟩,fun j hj hk=>?_⟩;obtain⟨ra,rc,e1,e2,e3,e4⟩:=h.els j hj hk;exact⟨ra,rc,cell_later hb e1,cell_later hb e2,e3.went hb,e4⟩
theorem eW.put(h:eW X b k w)(hk){ra}{rc}(hr:dW ra X[k].2 w)(hn:∀y,ra=some y->b<y.block)(hl:X[k].2.length<=17592186044416):
  eW X b (k+1) ((w.setCell ⟨b,k*2,none⟩ (.int .i64 X[k].1)).setCell ⟨b,k*2+1,none⟩ (.slice ra X[k].2.length rc)):=by
 obtain⟨u,hu⟩:=h.has (j:=k*2) (by omega);obtain⟨u',hu'⟩:=h.has (j:=k*2+1) (by omega)
 have other:∀(p:Addr) (v:Value),w.cell? p=some v->(p.block=b->p.off≠k*2/\p.off≠k*2+1)->((w.setCell ⟨b,k*2,none⟩ (.int .i64 X[k].1)).setCell ⟨b,k*2+1,none⟩ (.slice ra X[k].2.length rc)).cell? p=some v:=fun p v hv hp=>by
  rw[World.cell?_setCell_other _ _ _ _ (fun e=>by subst e;exact(hp rfl).2 rfl),World.cell?_setCell_other _ _ _ _ (fun e=>by subst e;exact(hp rfl).1 rfl)];exact hv
 have reads:∀(r:Option Addr) (l:List Int),dW r l w->(∀y,r=some y->b<y.block)->dW r l ((w.setCell ⟨b,k*2,none⟩ (.int .i64 X[k].1)).setCell ⟨b,k*2+1,none⟩ (.slice ra X[k].2.length rc)):=fun r l h1 h2=>Sep.Reads.keep h1 fun b' o' e=>by
  have:=h2 _ e;dsimp only at this;rw[Below.heap_setCell _ _ _ _ (by simp;omega),Below.heap_setCell _ _ _ _ (by simp;omega)]
 obtain⟨cur,h1,h2⟩:=h.blk;refine⟨⟨_,ft (ft h1 _) _,by simp[h2]⟩,fun j hj hjk=>?_⟩
 by_cases e:j=k
 ·subst e;refine⟨ra,rc,?_,?_,reads _ _ hr hn,hn,hl⟩
  ·rw[World.cell?_setCell_other _ _ _ _ (by intro e;simp at e)];exact World.cell?_setCell_same _ _ _ hu
  ·exact World.cell?_setCell_same _ _ _ ((World.cell?_setCell_other _ _ _ _ (by intro e;simp at e)).trans hu')
 ·obtain⟨ra',rc',e1,e2,e3,e4,e5⟩:=h.els j hj (by omega);exact⟨ra',rc',other _ _ e1 (fun _=>by dsimp only;omega),other _ _ e2 (fun _=>by dsimp only;omega),reads _ _ e3 e4,e4,e5⟩
end
def VO(X:List (Int×List Int))(w:World)(e:Ending)(w':World):Prop:=
 ∃b,e=.returned (.slice (some ⟨b,0,none⟩) X.length X.length)/\(∀w2,(∀g,w.heap.size<=g->g<w'.heap.size->w2.heap[g]?=w'.heap[g]?)->eZ (some ⟨b,0,none⟩) X w2)/\Below w.heap.size w w'
theorem eW.gave{X}{b}{w}(h:eW X b X.length w){w2}(hb:∀g,b<=g->g<w.heap.size->w2.heap[g]?=w.heap[g]?):eZ (some ⟨b,0,none⟩) X w2:=fun i hi=>by
 obtain⟨ra,rc,e1,e2,e3,e4,e5⟩:=h.els i hi hi;have hlt:=h.lt;have hb0:=hb b (Nat.le_refl _) hlt;refine⟨b,0,ra,rc,rfl,?_,?_,fun j hj=>?_,e5⟩
 ·rw[Nat.zero_add];exact(World.cell?_of_block (a:=⟨b,i*2,none⟩) hb0).trans e1
 ·rw[Nat.zero_add];exact(World.cell?_of_block (a:=⟨b,i*2+1,none⟩) hb0).trans e2
 ·obtain⟨b',o',e,hc⟩:=e3 j hj;have h1:=e4 _ e;have h2:=World.block_lt_of_cell? w _ hc;exact⟨b',o',e,(World.cell?_of_block (a:=⟨b',o'+j,none⟩) (hb b' (Nat.le_of_lt h1) h2)).trans hc⟩
theorem MG:(Tryz.prog.info? 55).map (fun i=>(i.zero,i.size,i.bytes))=some (some (.agg #[.int .i64 0,.slice none 0 0]),2,32):=by kernel_rfl
theorem zLk(n:Nat)(hn:n<=100000)(w):
  (Instr.makeSlice 22 (.int .i64 (n:Int)) (.int .i64 (n:Int))).run Tryz.prog w=.ok (.slice (some ⟨w.heap.size,0,none⟩) n n) (w.alloc (.cells (madeCells #[.int .i64 0,.slice none 0 0] (n*2)) 55)):=by
 obtain⟨i0,hi,hz0,hz1,hz2⟩:=info_parts MG;have hr:=run_make (P:=Tryz.prog) w 22 55 i0 (.agg #[.int .i64 0,.slice none 0 0]) Tryz.underlying22 hi hz0 .i64 .i64 (n:Int) (n:Int) (by omega) (Int.le_refl _) (by rw[hz2];omega) (by omega);rw[show((n:Int)).toNat=n by omega]at hr;rw[hr,hz1]
 rfl
theorem zM2(X:List (Int×List Int))(a:Option Addr)(c:Nat)(w:World)(h:eZ a X w)(hl:X.length<=100000):
  Calls Tryz.prog 73 #[.slice a X.length c,.func (.func 74) #[] #[]] w (VO X w):=by
 have hmk:=fun w=>zLk X.length hl w
 have B1:=af (boxed w (.cells (madeCells #[.int .i64 0,.slice none 0 0] (X.length*2)) 55));have F0:=af (show eW X w.heap.size 0 (w.alloc (.cells (madeCells #[.int .i64 0,.slice none 0 0] (X.length*2)) 55))from⟨⟨_,gJ _ _,by rw[size_madeCells]⟩,fun j _ hj=>absurd hj (Nat.not_lt_zero j)⟩);have HR:=af (fun w1 (b:Below w.heap.size w w1)=>h.went b);clear h;go_enter Tryz.func73,Tryz.ntmps73;go_wp2_with fail;generalize hw2:w.alloc (.cells (madeCells #[.int .i64 0,.slice none 0 0] (X.length*2)) 55)=w2 at*;clear hw2 hmk;go_loopw [13] (fun v wr=>∃k:Nat,v=.int .i64 (k:Int)/\k<=X.length/\eW X w.heap.size k wr/\Sep.Fr (fun x=>x=w.heap.size) w2 wr) (fun v _=>X.length-(intOf v).toNat)
 case atStart=>exact⟨0,rfl,Nat.zero_le _,F0.out,.refl _ _⟩
 case round=>
  obtain⟨k,rfl,hk,hF,hf⟩:=hrel;have FF:=af hF;have BR:=af (B1.out.trans (hf.below (m:=w.heap.size) (fun x hx=>by omega) B1.out.size));have FR:=af hf;clear hF hf
  by_cases hlt:k<X.length
  ·obtain⟨rb,ro,ra,rc,rfl,p0,p1,hR,hL⟩:=(HR.out wr BR.out) k hlt;have PUT:=af (fun(w3:World) (ra:Option Addr) (rc:Nat) (h3:eW X w.heap.size k w3) (hr:dW ra X[k].2 w3) (hn:∀y,ra=some y->w.heap.size<y.block)=>h3.put hlt (rc:=rc) hr hn hL);have RR:=af hR;clear hR;generalize X[k]=r at*;obtain⟨x,l⟩:=r;dsimp only at p0 p1 hL;have hkn:(k:Int)<(X.length:Int):=by omega
   obtain⟨u,hu⟩:=FF.out.has (j:=k*2) (by omega);obtain⟨u',hu'⟩:=FF.out.has (j:=k*2+1) (by omega);have bb:=boxed wr (.cells #[.int .i64 x,.slice ra l.length rc] 55);have FB:=af (FF.out.went bb);have RB:=af (FR.out.trans (.of_below bb) (fun x hx=> .inl hx));have hpw:w.heap.size<wr.heap.size:=FF.out.lt;replace hu:=cell_later bb hu;replace hu':=cell_later bb hu';have CC:=af (zPz x l ra rc _ (RR.out.went bb) hL);clear bb FF;go_wp2_with (go_at_call 74;refine CC.out.mono ?_;rintro e w3 ⟨a3,c3,rfl,hr3,ot,hb3⟩;have R3:=af hr3;have N3:=af (show∀y,a3=some y->w.heap.size<y.block from fun y e=>by have:_<=y.block:=ot y e;rw[World.size_alloc]at this;omega);have F3:=af (FB.out.went hb3);have G3:=af (RB.out.trans (.of_below hb3) (fun x hx=> .inl hx));have hu3:=cell_later hb3 hu;have hu4:=cell_later hb3 hu';have f3:=F3.out.free (k*2);have f4:=F3.out.free (k*2+1);clear hb3 hr3 ot);have F4:=af (PUT.out w3 a3 c3 F3.out R3.out N3.out);have R4:=af ((G3.out.setCell ⟨w.heap.size,k*2,none⟩ rfl (.int .i64 x)).setCell ⟨w.heap.size,k*2+1,none⟩ rfl (.slice a3 l.length c3));go_roundw
   case rel=>exact⟨k+1,by go_num,by omega,F4.out,R4.out⟩
   case measure=>first|(simp[intOf];omega)|omega
  ·obtain rfl:k=X.length:=by omega
   go_wp2;go_ret;exact⟨w.heap.size,rfl,fun w2 h=>FF.out.gave h,BR.out⟩
theorem zLP(X)(a)(c)(w)(h:eZ a X w)(hl:X.length<=100000):
  Calls Tryz.prog 27 #[.slice a X.length c] w (VO X w):=by
 have E:=af (zM2 X a c w h hl);clear h;go_enter Tryz.func27,Tryz.ntmps27;go_wp2_with (go_at_call 73;refine E.out.mono ?_;rintro e w3 ⟨b,rfl,hk,hb3⟩;have K:=af hk;have B:=af hb3;clear hb3 hk);go_ret;exact⟨b,rfl,K.out,B.out⟩
end Pk
namespace Im
open Gr (bg gI cell_later)
def Gp(a b:Int):Int:=if a=0 then b else a
def mY(x y:au):Int:=Gp (Lib.compareInt x.1 y.1) (Lib.compareInt x.2 y.2)
theorem ET(p o:Nat)(a b:Int)(w:World)(h0:w.cell? ⟨p,o,none⟩=some (.int .i64 a))(h1:w.cell? ⟨p,o+1,none⟩=some (.int .i64 b)):
  Calls Tryz.prog 232 #[.slice (some ⟨p,o,none⟩) 2 2] w fun e w'=>e=.returned (.int .i64 (Gp a b))/\w'=w:=by
 unfold Gp;go_enter Tryz.func232,Tryz.ntmps232;go_wp2;go_loopw [8] (fun i wr=>wr=w/\∃j:Nat,i=.int .i64 j/\j<=2/\(1<=j->a=0)/\(2<=j->b=0)) (fun i _=>2-(intOf i).toNat)
 case atStart=>exact⟨rfl,0,rfl,by omega,by omega,by omega⟩
 case round=>
  obtain⟨rfl,j,rfl,hj,ha,hb⟩:=hrel;rcases(by omega:j=0\/j=1\/j=2)with rfl|rfl|rfl
  ·clear ha hb
   by_cases hz:a=0
   ·subst hz;go_wp2;go_roundw
    case rel=>exact⟨by simp,1,by go_num,by omega,by simp,by simp⟩
    case measure=>simp[intOf]
   ·go_wp2;go_ret;exact⟨rfl,rfl⟩
  ·obtain rfl:=ha (by omega);clear ha hb
   by_cases hz:b=0
   ·subst hz;go_wp2;go_roundw
    case rel=>exact⟨by simp,2,by go_num,by omega,by simp,by simp⟩
    case measure=>simp[intOf]
   ·go_wp2;go_ret;exact⟨rfl,rfl⟩
  ·obtain rfl:=ha (by omega);obtain rfl:=hb (by omega);go_wp2;go_ret;exact⟨rfl,rfl⟩
theorem Mo(a b)(W):Calls Tryz.prog 144 #[.int .i64 a,.int .i64 b] W fun e w'=>e=.returned (.int .i64 (Lib.compareInt a b))/\w'=W:=by
 have h:=AnyG.cmp_Compare_int Tryz.cmpInt a b W;change Calls Tryz.prog 144 _ _ _ at h;exact h
def Gw(w w':World):Prop:=∃n os,w'=Go.Sort.grow (w.drewN n) os
theorem Gw.refl(w):Gw w w:=⟨0,#[],by rw[Go.Sort.grow_empty];rfl⟩
theorem Gw.alloc{w w1}(h:Gw w w1)(o):Gw w (w1.alloc o):=by
 obtain⟨n,os,rfl⟩:=h;exact⟨n,os++#[o],by rw[Go.Sort.alloc_eq_grow,Go.Sort.grow_grow]⟩
theorem Gw.drew{w w1}(h:Gw w w1):Gw w w1.drew:=by
 obtain⟨n,os,rfl⟩:=h;exact⟨n+1,os,rfl⟩
theorem Gw.below{w w1}(h:Gw w w1):Below w.heap.size w w1:=by
 obtain⟨n,os,rfl⟩:=h;refine⟨rfl,rfl,rfl,?_,fun k hk=>?_⟩
 ·rw[Go.Sort.size_grow];exact Nat.le_add_right _ _
 ·show(w.heap++os)[k]?=w.heap[k]?;rw[Array.getElem?_append_left hk]
theorem zI6(x y:au)(w:World):
  Calls Tryz.prog 219 #[iv x,iv y] w fun e w'=>e=.returned (.int .i64 (mY x y))/\Gw w w':=by
 have C:=af Mo;unfold mY;unfold iv;go_enter Tryz.func219,Tryz.ntmps219;go_wp2;obtain⟨wq,eU⟩:∃wq,(w.alloc (.cells #[.int .i64 x.1,.int .i64 x.2] 181)).alloc (.cells #[.int .i64 y.1,.int .i64 y.2] 181)=wq:=⟨_,rfl⟩;rw[eU];have q0:wq.cell? ⟨w.heap.size,0,none⟩=some (.int .i64 x.1):=by rw[←eU];exact gI (bg rfl rfl)
 have q1:wq.cell? ⟨w.heap.size,1,none⟩=some (.int .i64 x.2):=by rw[←eU];exact gI (bg rfl rfl)
 have q2:wq.cell? ⟨w.heap.size+1,0,none⟩=some (.int .i64 y.1):=by rw[←eU];exact bg (by simp) rfl
 have q3:wq.cell? ⟨w.heap.size+1,1,none⟩=some (.int .i64 y.2):=by rw[←eU];exact bg (by simp) rfl
 have G0:Gw w wq:=by rw[←eU];exact((Gw.refl w).alloc _).alloc _
 have HQ:=af (show∀w',Gw wq w'->w'.cell? ⟨w.heap.size,0,none⟩=some (.int .i64 x.1)/\w'.cell? ⟨w.heap.size,1,none⟩=some (.int .i64 x.2)/\w'.cell? ⟨w.heap.size+1,0,none⟩=some (.int .i64 y.1)/\w'.cell? ⟨w.heap.size+1,1,none⟩=some (.int .i64 y.2)
  from fun w' g=>⟨cell_later g.below q0,cell_later g.below q1,cell_later g.below q2,cell_later g.below q3⟩)
 have g1:Gw wq wq.drew:=(Gw.refl wq).drew;have A0:∀c1 c2:Int,(wq.alloc (.cells #[.int .i64 c1,.int .i64 c2] 3)).drew.cell? ⟨wq.heap.size,0,none⟩=some (.int .i64 c1):=fun _ _=>bg (w:=wq) rfl rfl
 have A1:∀c1 c2:Int,(wq.alloc (.cells #[.int .i64 c1,.int .i64 c2] 3)).drew.cell? ⟨wq.heap.size,0+1,none⟩=some (.int .i64 c2):=fun _ _=>bg (w:=wq) rfl rfl
 clear eU
 go_region_held3 (fun w'=>w'.cell? ⟨w.heap.size,0,none⟩=some (.int .i64 x.1)/\w'.cell? ⟨w.heap.size,1,none⟩=some (.int .i64 x.2)/\w'.cell? ⟨w.heap.size+1,0,none⟩=some (.int .i64 y.1)/\w'.cell? ⟨w.heap.size+1,1,none⟩=some (.int .i64 y.2))
  (first|exact HQ.out _ (by assumption)|exact HQ.out _ (Gw.alloc (by assumption) _))
  (first
   |(go_at_call 144;refine(C.out _ _ _).mono ?_;rintro e wn ⟨rfl,rfl⟩)
   |(go_at_call 232;refine(ET wq.heap.size 0 _ _ _ (A0 _ _) (A1 _ _)).mono ?_;rintro e wn ⟨rfl,rfl⟩)
   |fail)
 go_wp2;go_ret;exact⟨rfl,(G0.alloc _).drew⟩
theorem zF8(p:Option Addr)(c:Nat)(fv:Value)(w:World):
  Calls Tryz.prog 236 #[.slice p 0 c,.int .i64 0,.int .i64 0,fv] w fun e w'=>e=.returned (.tuple #[])/\w'=w:=by
 go_enter Tryz.func236,Tryz.ntmps236;go_wp2;refine wp_loop_rounds 1 ?_;rw[rounds_succ];go_wp2;go_end0;exact⟨rfl,rfl⟩
theorem zRM(p:Option Addr)(c:Nat)(lim:Int)(fv:Value)(w:World):
  Calls Tryz.prog 235 #[.slice p 0 c,.int .i64 0,.int .i64 0,.int .i64 lim,fv] w fun e w'=>e=.returned (.tuple #[])/\w'=w:=by
 have hi:=fun W=>zF8 p c fv W
 go_enter Tryz.func235,Tryz.ntmps235;go_wp2;refine wp_loop_rounds 1 ?_;rw[rounds_succ];go_wp2_with (go_at_call 236;refine(hi _).mono ?_;rintro e w' ⟨rfl,rfl⟩)
 (try simp only[Exit.inBlock,Exit.then]);refine bodyPost_ret (results_none rfl _ _ _) rfl ?_
 exact⟨rfl,rfl⟩
theorem Nh(W):Calls Tryz.prog 170 #[.int .u64 0] W fun e w'=>e=.returned (.int .i64 (Lib.bitLen 0:Nat))/\w'=W:=by
 have h:=Any.bits_Len (SlLaysF0.n15.bits (P:=Tryz.prog) (ρ:=Tryz.sortItm_ren) {Tryz.sortItm with}) 0 W (by omega) (by omega);change Calls Tryz.prog 170 _ _ _ at h;exact h
theorem zOx(p:Option Addr)(c:Nat)(fv:Value)(w:World):
  Calls Tryz.prog 230 #[.slice p 0 c,fv] w fun e w'=>e=.returned (.tuple #[])/\w'=w:=by
 have hp:=fun lim W=>zRM p c lim fv W
 have hl:=Nh;go_enter Tryz.func230,Tryz.ntmps230
 go_wp2_with (first
  |(go_at_call 170;refine(hl _).mono ?_;rintro e w' ⟨rfl,rfl⟩)
  | (go_at_call 235;refine(hp _ _).mono ?_;rintro e w' ⟨rfl,rfl⟩))
 go_end0;exact⟨rfl,rfl⟩
attribute [local go_sem] Oper.semAt_some
structure Came (X Lf:au->Prop) (l:List au):Prop where
 nd:l.Nodup
 fit:∀x∈l,dY x
 mem:∀x,dY x->(x∈l↔X x/\¬Lf x)
theorem Came.start(X):Came X X []:=⟨List.nodup_nil,fun x hx=>(List.not_mem_nil hx).elim,fun x _=>⟨fun h=>(List.not_mem_nil h).elim,fun h=>absurd h.1 h.2⟩⟩
theorem Came.step{X Lf}{l}{x}(h:Came X Lf l)(hx:dY x)(hl:Lf x)(hX:X x):Came X (fun y=>Lf y/\y≠x) (l++[x]):=by
 have hn:x∉l:=fun k=>((h.mem x hx).1 k).2 hl
 refine⟨List.nodup_append.2 ⟨h.nd,by simp,fun a ha b hb=>?_⟩,fun y hy=>?_,fun y hy=>?_⟩
 ·rw[List.mem_singleton]at hb;subst hb;exact fun e=>hn (e▸ha)
 ·rcases List.mem_append.1 hy with k|k
  ·exact h.fit y k
  ·rw[List.mem_singleton]at k;rw[k];exact hx
 ·rw[List.mem_append,List.mem_singleton,h.mem y hy];constructor
  ·rintro(⟨h1,h2⟩|e)
   ·exact⟨h1,fun k=>h2 k.1⟩
   ·subst e;exact⟨hX,fun k=>k.2 rfl⟩
  ·rintro⟨h1,h2⟩
   by_cases e:y=x
   ·exact .inr e
   ·exact .inl ⟨h1,fun k=>h2 ⟨k,e⟩⟩
structure All (X:au->Prop) (l:List au):Prop where
 nd:l.Nodup
 fit:∀x∈l,dY x
 mem:∀x,dY x->(x∈l↔X x)
theorem Came.done{X Lf}{l}(h:Came X Lf l)(ho:Over Lf):All X l:=
 ⟨h.nd,h.fit,fun x hx=>(h.mem x hx).trans ⟨fun k=>k.1,fun k=>⟨k,ho x hx⟩⟩⟩
theorem keys1_in(F:Fence)(n:Nat)(hf:F.fn 231)(hro:F.round=none)(hn:1<=n)(l Bm b nn:Nat)(X:au->Prop)(J Jx:List au->World->Prop)
  (hY:∀pre x W,J pre W->pre.length<nn->YieldAt F (n-1) Tryz.prog l #[iv x] W fun e W'=>(e=.returned (.bool true)/\J (pre++[x]) W'/\KeepsWalks W W')\/(e=.returned (.bool false)/\Jx (pre++[x]) W'))
  (W:World) (hJ:AbidesFrom W.heap.size J) (hm:W.cell? ⟨Bm,0,none⟩=some (.map (some b))) (hs:MS b nn X W) (h0:J [] W):
  CallsIn F n Tryz.prog 231 #[.func (.yield l) #[] #[],.pointer (some ⟨Bm,0,none⟩)] W fun e W'=>(∃v,e=.returned v)/\
   ((∃ss,All X ss/\J ss W')\/(∃pre,True/\Jx pre W')):=by
 refine callsIn_of_wp Tryz.func231 rfl hf ?_ hro;simp only[Tryz.ntmps231,List.size_toArray,List.length_cons,List.length_nil,Nat.reduceAdd,Nat.reduceSub,Array.replicate_succ,Array.replicate_zero,List.push_toArray,List.append_toArray,List.nil_append,List.cons_append]
 gi_wp2_with (first
  |(gi_at_range;refine zDY _ rfl _ rfl vK Tryz.underlying250 (.agg []) b nn X rfl hs ?_;intro w0 hrg0 hg0 hs0)
  |gi_in)
 go_frame
 gi_loopw [3] (fun _ wr=>∃(Lf:au->Prop) (ss:List au),MR b W.heap.size nn ss.length X Lf wr/\ss.length<=nn/\Came X Lf ss/\J ss wr)
  (fun _ wr=>wr.rangeLeft b W.heap.size)
 case atStart=>
  exact⟨X,[],hrg0,Nat.zero_le _,Came.start X,hJ [] W w0 none h0 hg0 (fun r e=>by cases e)⟩
 case round=>
  obtain⟨Lf,ss,hrg,hle,hC,hJs⟩:=hrel
  gi_wp2_with (first
   |(gi_at_next;refine zD2 _ rfl _ rfl vK b W.heap.size nn ss.length X Lf rfl hrg ?_ ?_)
   |gi_in)
  ·intro hd
   gi_wp2
   go_end0;exact⟨⟨_,rfl⟩,.inl ⟨ss,hC.done hd,hJs⟩⟩
  ·intro x0 x1 w2 hx Cf ma hrg2 hlt hg2 hs2 hen;have hJ2:J ss w2:=hJ ss wr w2 (some W.heap.size) hJs hg2 (fun r e=>by cases e;exact⟨Nat.le_refl _,hrg.iter_walk⟩)
   have cx:ss.length<nn:=by
    obtain⟨D,left,cnt,h1,h2,h3,h4⟩:=hrg2;omega
   have vd:=af (hC.step (x:=(x0,x1)) hx Cf ma);have hr3:=hrg2.went (Gr.boxed w2 (.cells #[.int .i64 x0,.int .i64 x1] 181));have rZ:(w2.alloc (.cells #[.int .i64 x0,.int .i64 x1] 181)).rangeLeft b W.heap.size=w2.rangeLeft b W.heap.size:=cf.gU ((Gr.boxed w2 _).block b hrg2.lt.1) ((Gr.boxed w2 _).block _ hrg2.lt.2.1);have hJ3:J ss (w2.alloc (.cells #[.int .i64 x0,.int .i64 x1] 181)):=hJ ss w2 _ none hJ2 (World.grownBy_alloc _ _ _) (fun r e=>by cases e);have y0:(w2.alloc (.cells #[.int .i64 x0,.int .i64 x1] 181)).cell? ⟨w2.heap.size,0,none⟩=some (.int .i64 x0):=Gr.bg rfl rfl;have y1:(w2.alloc (.cells #[.int .i64 x0,.int .i64 x1] 181)).cell? ⟨w2.heap.size,1,none⟩=some (.int .i64 x1):=Gr.bg rfl rfl;obtain⟨fn,tmps,assign,body,hy,hR⟩:=hY ss (x0,x1) _ hJ3 cx;unfold iv at hen hy⊢;dsimp only at hen hy⊢;clear hs2 hJ2 hJs hrg hC hJ
   gi_wp2
   refine hR.mono ?_;rintro e W3 (⟨rfl,hJ4,hk4⟩|⟨rfl,JW⟩)
   ·obtain⟨hr4,hl4⟩:=hr3.walks hk4
    gi_wp2
    go_roundw
    case rel=>exact⟨_,ss++[(x0,x1)],by simpa using hr4,by simp;omega,vd.out,hJ4⟩
    case measure=>rw[hl4,rZ];exact hlt
   ·gi_wp2
    refine bodyPost_ret (results_none rfl _ _ _) rfl ?_;exact⟨⟨_,rfl⟩,.inr ⟨_,trivial,JW⟩⟩
theorem keys_stops(F)(n)(hf:F.fn 231)(hro:F.round=none)(hn:1<=n)(Bm b nn)(X)(w)(hBm:Bm<w.heap.size)(hm:w.cell? ⟨Bm,0,none⟩=some (.map (some b)))(hs:MS b nn X w):
  SeqStopsK F n Tryz.prog 231 #[.pointer (some ⟨Bm,0,none⟩)] (fun x:au=>#[iv x]) KeepsWalks (All X) (fun _=>True) nn w:=fun l J Jx W hW hJ _ hY h0=>
 keys1_in F n hf hro hn l Bm b nn X J Jx hY W hJ ((hW.cell (p:=⟨Bm,0,none⟩) hBm).trans hm) (hs.went hW) h0
end Im
namespace Gr
def Xk(l:List Int)(w:World)(e:Ending)(w':World):Prop:=
 ∃a c,e=.returned (.slice a l.length c)/\Sep.Reads a (aN l) w'/\New a w/\Below w.heap.size w w'/\l.length<=c
def zUn(r:Int×List Int)(ok:Bool)(w:World)(e:Ending)(w':World):Prop:=
 ∃a c,e=.returned (.tuple #[.agg #[.int .i64 r.1,.slice a r.2.length c],.bool ok])/\Sep.Reads a (aN r.2) w'/\Below w.heap.size w w'/\New a w/\r.2.length<=c
theorem zMt(a:Option Addr)(l:List Int)(c:Nat)(w:World)(h:Sep.Reads a (aN l) w)(hl:l.length<=17592186044416):
  Calls Tryz.prog 75 #[.slice a l.length c] w (Xk l w):=by
 obtain⟨i0,hi,hz0,hz1,hz2⟩:=info_parts pB;cases a with
 |none=>
  have h0:l=[]:=by
   rcases l with _|⟨x,l⟩
   ·rfl
   ·obtain⟨_,_,e,_⟩:=h 0 (by simp[aN]);cases e
  subst h0;have hn:=Lib.run_eql_slice_nil (P:=Tryz.prog);go_enter Tryz.func75,Tryz.ntmps75;go_wp2;go_ret;exact⟨Option.none,_,rfl,.nil _ _,(fun _ h=>by cases h),.refl _ _,Nat.zero_le _⟩
 |some x=>
  have HB:=af (fun v (w1 w2:World) (h1:w2.ownsRow w.heap.size 3 1 v (0+l.length) ([]++aN l)) (h2:(w.alloc (.cells #[] 3)).grownBy w2 (some w.heap.size))=>show Xk l w (.returned v) w2 from by
   rw[Nat.zero_add,List.nil_append]at h1;obtain⟨a',c',rfl⟩:=Sep.zK h1
   exact⟨a',c',rfl,.dQ h1,Ia h1 (Nat.le_refl _),((Below.refl _ _).alloc (Nat.le_refl _) _).grown h2 (by simp) fun k hk=>by injection hk with hk;omega,zUL h1⟩)
  have HO:=af (World.ownsRow_made (base:=w.heap.size) (e:=3) (size:=1) w #[] 0 (Nat.le_refl _) (by simp) (by simp))
  have HN:=af (show∀(j:Nat) (u:Value),(aN l)[j]?=some u->(w.alloc (.cells #[] 3)).cell? (x.add j)=some u from fun j u hj=>by
   obtain⟨iU,rfl⟩:=List.getElem?_eq_some_iff.1 hj;obtain⟨b,o,e,hc⟩:=h j iU;injection e with e
   subst e;rw[WideShapes.add_plain]
   exact cell_later (boxed _ _) hc)
  have HL:=af (XH l);have hll:=Ut l;clear h;have hn:=Lib.run_eql_slice_nil (P:=Tryz.prog);have hb:=Uf;go_enter Tryz.func75,Tryz.ntmps75;go_wp2_with (at_builtin;refine wpList_append_own_at _ rfl _ _ 29 rfl w.heap.size 3 i0 (.int .i64 0) 1 8 Tryz.underlying29 hi hz0 hz1 hz2 rfl (by decide) _ _ _ rfl HO.out x l.length c (aN l) rfl (by simp[aN]) HN.out HL.out (by unfold maxLen;omega) (by omega) (by simp) ?_;intro v' w2 hown2 hg2 _ _;have HE:=af (HB.out v' w w2 hown2 hg2);clear hown2 hg2);go_ret;exact HE.out
theorem zKm(h:Sh)(G:ai)(i:Int)(w:World)(k:bI h G w):
  Calls Tryz.prog 98 #[gv h G,.int .i64 i] w (zUn (ax G i) (cN G i) w):=by
 have X:=af (Bx.start h G w 47);have hc3:=k.r2
 by_cases h0:i<0\/(G.rules.length:Int)<i
 ·obtain⟨e1,e2⟩:=WV h0;rw[e1,e2];clear k e1 e2
  by_cases h1:i<0
  ·clear h0;unfold gv;go_enter Tryz.func98,Tryz.ntmps98;go_wp2;exact bodyPost_ret (v:=.tuple #[.agg #[.int .i64 0,.slice Option.none 0 0],.bool false]) (by simp[results,Tryz.results98,go_sem]) rfl ⟨_,_,rfl,.nil _ _,(X.out.alloc _).below,(fun _ h=>by cases h),Nat.zero_le _⟩
  ·have h2:(G.rules.length:Int)<i:=by omega
   clear h0;unfold gv;go_enter Tryz.func98,Tryz.ntmps98;go_wp2;exact bodyPost_ret (v:=.tuple #[.agg #[.int .i64 0,.slice Option.none 0 0],.bool false]) (by simp[results,Tryz.results98,go_sem]) rfl ⟨_,_,rfl,.nil _ _,(X.out.alloc _).below,(fun _ h=>by cases h),Nat.zero_le _⟩
 ·by_cases h1:i=(G.rules.length:Int)
  ·subst h1;obtain⟨e1,e2⟩:=nK G;rw[e1,e2];clear k e1 e2 h0;unfold gv;go_enter Tryz.func98,Tryz.ntmps98;go_wp2;refine bodyPost_ret (v:=.tuple #[.agg #[.int .i64 0,.slice (some ⟨w.heap.size+1+1,0,Option.none⟩) 1 1],.bool true]) (by simp[results,Tryz.results98,go_sem]) rfl ⟨_,_,rfl,MW (bg (by simp) rfl),((X.out.alloc _).alloc _).below,(fun x h=>by injection h with h;subst h;dsimp only;omega),Nat.le_refl _⟩
  ·obtain⟨j,rfl⟩:∃j:Nat,i=(j:Int):=⟨i.toNat,by omega⟩;have hj:j<G.rules.length:=by omega
   obtain⟨e1,e2⟩:=nN hj;rw[e1,e2];obtain⟨a1,c1,a2,c2,a3,c3⟩:=h;obtain⟨b,o,ra,rc,e,g1,g2,g3,g4,g5⟩:=k.rules j hj;dsimp only at e;subst e;generalize G.rules[j]=r at g1 g2 g3 g4 g5⊢;have hblt:b<w.heap.size:=World.block_lt_of_cell? w ⟨b,o+j*2,Option.none⟩ g1;have HR:=af (show Sep.Reads ra (aN r.2) w from g3);clear k e1 e2 h0 h1 g3;unfold gv;dsimp only;go_enter Tryz.func98,Tryz.ntmps98;go_wp2;obtain⟨wq,eU⟩:∃wq,((w.alloc (.cells #[.slice a1 G.terms.length c1,.slice a2 G.ah.length c2,.slice (some ⟨b,o,Option.none⟩) G.rules.length c3,.int .i64 G.start] 47)).alloc (.cells #[.int .i64 0,.slice Option.none 0 0] 55)).alloc (.cells #[.int .i64 r.1,.slice ra r.2.length rc] 55)=wq:=⟨_,rfl⟩;rw[eU];have q0:wq.cell? ⟨w.heap.size+1+1,0,Option.none⟩=some (.int .i64 r.1):=by rw[←eU];exact bg (by simp) rfl
   have q1:wq.cell? ⟨w.heap.size+1+1,1,Option.none⟩=some (.slice ra r.2.length rc):=by rw[←eU];exact bg (by simp) rfl
   have q2:wq.cell? ⟨w.heap.size+1,0,Option.none⟩=some (.int .i64 0):=by rw[←eU];exact gI (bg (by simp) rfl)
   have q3:wq.cell? ⟨w.heap.size+1,1,Option.none⟩=some (.slice Option.none 0 0):=by rw[←eU];exact gI (bg (by simp) rfl)
   have q4:wq.frozen? ⟨w.heap.size+1,0,Option.none⟩=false:=by rw[←eU];exact pU (i:=0) (boxed _ _) (yC (by simp)) (bg (by simp) rfl)
   have q5:wq.frozen? ⟨w.heap.size+1,1,Option.none⟩=false:=by rw[←eU];exact pU (i:=0) (boxed _ _) (yC (by simp)) (bg (by simp) rfl)
   have QB:=af (show Below w.heap.size w wq by rw[←eU];exact((X.out.alloc _).alloc _).below);have QC:=af (fun w1 (k:Below wq.heap.size wq w1)=>zMt ra r.2 rc w1 ((HR.out.below QB.out (Nat.le_refl _)).below k (Nat.le_refl _)) (by omega))
   have HQ:=af (show∀w',Below wq.heap.size wq w'->w'.cell? ⟨w.heap.size+1+1,0,Option.none⟩=some (.int .i64 r.1)/\w'.cell? ⟨w.heap.size+1+1,1,Option.none⟩=some (.slice ra r.2.length rc)/\Below w.heap.size w w'
    from fun w' hb=>⟨cell_later hb q0,cell_later hb q1,QB.out.trans (hb.mono QB.out.size)⟩)
   have HT:=af (show∀w' u v,Below wq.heap.size wq w'->((w'.setCell ⟨w.heap.size+1,0,Option.none⟩ u).setCell ⟨w.heap.size+1,1,Option.none⟩ v).cell? ⟨w.heap.size+1+1,0,Option.none⟩=some (.int .i64 r.1)/\((w'.setCell ⟨w.heap.size+1,0,Option.none⟩ u).setCell ⟨w.heap.size+1,1,Option.none⟩ v).cell? ⟨w.heap.size+1+1,1,Option.none⟩=some (.slice ra r.2.length rc)/\Below w.heap.size w ((w'.setCell ⟨w.heap.size+1,0,Option.none⟩ u).setCell ⟨w.heap.size+1,1,Option.none⟩ v)
    from fun w' u v hb=>⟨by rw[World.cell?_setCell_other _ _ _ _ (by intro e;simp at e),World.cell?_setCell_other _ _ _ _ (by intro e;simp at e)];exact cell_later hb q0,by rw[World.cell?_setCell_other _ _ _ _ (by intro e;simp at e),World.cell?_setCell_other _ _ _ _ (by intro e;simp at e)];exact cell_later hb q1,
     ((QB.out.trans (hb.mono QB.out.size)).setCell (by simp) _).setCell (by simp) _⟩)
   have gh:=drawn wq;clear eU X HR
   go_region_held3 (fun w'=>w'.cell? ⟨w.heap.size+1+1,0,Option.none⟩=some (.int .i64 r.1)/\w'.cell? ⟨w.heap.size+1+1,1,Option.none⟩=some (.slice ra r.2.length rc)/\Below w.heap.size w w')
    (first|exact HQ.out _ (by assumption)|exact HT.out _ _ _ (by assumption))
    (first
     |(go_at_call 75;refine(QC.out _ gh).mono ?_;rintro e wn ⟨a',c',rfl,hr,hnew,hb,tV⟩;have ZH:=af tV;have Aq:=af hr;have HN:=af hnew;have kB:Below wq.heap.size wq wn:=step gh hb;have z2:=cell_later kB q2;have z3:=cell_later kB q3;have z4:=pU kB q4 q2;have z5:=pU kB q5 q2;clear hr hnew hb tV)
     |fail)
   go_wp2;have Cu:=World.block_lt_of_cell? wq ⟨w.heap.size+1,0,Option.none⟩ q2
   have f0:((wn.setCell ⟨w.heap.size+1,0,Option.none⟩ (.int .i64 r.1)).setCell ⟨w.heap.size+1,1,Option.none⟩ (.slice a' r.2.length c')).cell? ⟨w.heap.size+1,0,Option.none⟩=some (.int .i64 r.1):=by
    rw[World.cell?_setCell_other _ _ _ _ (by intro e;simp at e)];exact World.cell?_setCell_same _ _ _ z2
   have f1:((wn.setCell ⟨w.heap.size+1,0,Option.none⟩ (.int .i64 r.1)).setCell ⟨w.heap.size+1,1,Option.none⟩ (.slice a' r.2.length c')).cell? ⟨w.heap.size+1,1,Option.none⟩=some (.slice a' r.2.length c'):=by
    have y3:(wn.setCell ⟨w.heap.size+1,0,Option.none⟩ (.int .i64 r.1)).cell? ⟨w.heap.size+1,1,Option.none⟩=some (.slice Option.none 0 0):=by
     rw[World.cell?_setCell_other _ _ _ _ (by intro e;simp at e)];exact z3
    exact World.cell?_setCell_same _ _ _ y3
   have HF:=af (show Sep.Reads a' (aN r.2) ((wn.setCell ⟨w.heap.size+1,0,Option.none⟩ (.int .i64 r.1)).setCell ⟨w.heap.size+1,1,Option.none⟩ (.slice a' r.2.length c'))from Aq.out.keep fun b' o' e'=>by
    have hn:=HN.out _ e';have hn':wq.heap.size<=b':=hn;have Cv:w.heap.size+1<wq.heap.size:=Cu
    rw[Below.heap_setCell _ _ _ _ (by simp;omega),Below.heap_setCell _ _ _ _ (by simp;omega)])
   exact bodyPost_ret (v:=.tuple #[.agg #[.int .i64 r.1,.slice a' r.2.length c'],.bool true]) (by simp[results,Tryz.results98,go_sem,f0,f1]) rfl ⟨_,_,rfl,HF.out,(HT.out _ _ _ kB).2.2,(fun x hx=>by have h1:=HN.out x hx;have Cv:w.heap.size+1<wq.heap.size:=Cu;have h2:wq.heap.size<=x.block:=h1;omega),ZH.out⟩
