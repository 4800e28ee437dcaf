/- A part of the proof. -/
import Derived.Test.YtegeamggbglneaaGreatDoorPk13
import Derived.Test.YtegeamggbglneaaGreatDoorPk17
import Derived.Test.YtegeamggbglneaaGreatDoorLookLay
set_option maxHeartbeats 4000000
set_option maxRecDepth 100000
set_option linter.unusedVariables false
namespace Go.Proofs.YtegeamggbglneaaGreatDoor
open Go.RowKit Go.Maps
namespace Pk
open Gr (boxed)
theorem zEI{α:Type}{X:List (List α)}{n}(h:∀r∈X,r.length<=n){i}(hi:i<X.length):X[i].length<=n:=h _ (List.getElem_mem hi)
theorem zIU(T:Tb)(aR:Option Addr)(cR:Nat)(aA:Option Addr)(cA:Nat)(aG:Option Addr)(cG:Nat)(w:World)(S:TSm T)(x:Int×Int):
  Calls Tryz.prog 100 #[.agg (tvs T aR cR aA cA aG cG),av x] w (Gr.Is (.bool (okA T.acts.length T.rules.length x)) w):=by
 obtain⟨x1,x2⟩:=x;have b1:=boxed w (.cells (tvs T aR cR aA cA aG cG) 26);have b2:=boxed (w.alloc (.cells (tvs T aR cR aA cA aG cG) 26)) (.cells #[.int .i64 x1,.int .i64 x2] 57);have B2:=zV7 (Gr.step b1 b2);obtain⟨z0,z1,z2,z3,z4⟩:=(zAp (T:=T) (aR:=aR) (cR:=cR) (aA:=aA) (cA:=cA) (aG:=aG) (cG:=cG) w 26).went b2;have Y:=zAd (w.alloc (.cells (tvs T aR cR aA cA aG cG) 26)) (.cells #[.int .i64 x1,.int .i64 x2] 57);rw[World.size_alloc]at Y;have y0:=zAA Y (k:=0) (by simp);have y1:=zAA Y (k:=1) (by simp);have h1:=S.rl;have h2:=S.al;have hw:IntKind.i64.wrap ((T.rules.length:Int)-1)=(T.rules.length:Int)-1:=by rw[IntKind.wrap_i64];omega
 clear b1 b2 Y S;unfold tvs at*;go_enter Tryz.func100,Tryz.ntmps100;go_wp2
 all_goals
  go_ret;refine⟨Gr.zAD ?_,B2.out⟩;go_light;unfold okA;dsimp only;simp only[beq_iff_eq,beq_eq_false_iff_ne,ne_eq]at*
  try rw[hw]
  first|(rw[decide_eq_true_iff];omega)|(rw[decide_eq_false_iff_not];omega)|(rw[Bool.eq_iff_iff];simp only[decide_eq_true_eq,beq_iff_eq];omega)
theorem zHK(T:Tb)(aR:Option Addr)(cR:Nat)(aA:Option Addr)(cA:Nat)(aG:Option Addr)(cG:Nat)(w:World)(D:TAt T aR cR aA cA aG cG w)(S:TSm T):
  Calls Tryz.prog 70 #[.agg (tvs T aR cR aA cA aG cG)] w (Gr.Is (.bool (zEg T)) w):=by
 have B1:=zV7 (boxed w (.cells (tvs T aR cR aA cA aG cG) 26));have Z1:=zV7 (zAp (T:=T) (aR:=aR) (cR:=cR) (aA:=aA) (cA:=cA) (aG:=aG) (cG:=cG) w 26);have RA:=zV7 (fun w1 x=>zIU T aR cR aA cA aG cG w1 S x);have DD:=zV7 (fun w1 (b:Below w.heap.size w w1)=>(D.went b).acts);have FT:=zV7 (fun i (hi:i<T.acts.length) (e:zDJ T.acts.length T.rules.length T.terms T.acts[i]=false)=>(show zEg T=false from zAc hi e));have FE:=zV7 (fun i (h:(T.acts.take i).all (zDJ T.acts.length T.rules.length T.terms)=true) (hi:¬i<T.acts.length)=>(show zEg T=true from zAt h hi));have HL:=zV7 (fun i (hi:i<T.acts.length)=>zEI S.ar hi);have hal:=S.al;have hrl:=S.rl;generalize zEg T=g at*;clear D S;obtain⟨z0,z1,z2,z3,z4⟩:=Z1.out;unfold tvs at*;go_enter Tryz.func70,Tryz.ntmps70;go_wp2_with fail;generalize w.alloc (.cells #[.slice aR T.rules.length cR,.int .i64 T.terms,.int .i64 T.nons,.slice aA T.acts.length cA,.slice aG T.goto.length cG] 26)=w2 at*;clear z0 z1 z2 z3 z4;go_loopw [10] (fun v wr=>∃i:Nat,v=.int .i64 (i:Int)/\i<=T.acts.length/\(T.acts.take i).all (zDJ T.acts.length T.rules.length T.terms)=true/\Below w2.heap.size w2 wr) (fun v _=>T.acts.length-(intOf v).toNat)
 case atStart=>exact⟨0,rfl,Nat.zero_le _,zAz _ _,.refl _ _⟩
 case round=>
  obtain⟨i,rfl,hi,hA,hB⟩:=hrel;have A:=zV7 hA;have B:=zV7 hB;clear hB hA
  by_cases hlt:i<T.acts.length
  ·have BW:=zV7 (Gr.step B1.out B.out);obtain⟨b,o,ra,c,rfl,p0,p1,_,_⟩:=DD.out wr BW.out i hlt;obtain⟨z0,z1,z2,z3,z4⟩:=Z1.out.went B.out;have hil:(i:Int)<(T.acts.length:Int):=by omega
   have FTi:=zV7 (FT.out i hlt);have AS:=zV7 (fun e=>zAy A.out hlt e);have hlen:=HL.out i hlt;have PP:=zV7 p1;clear p1;generalize T.acts[i]=row at*;have hw:IntKind.i64.wrap ((row.length:Int)-1)=(row.length:Int)-1:=by rw[IntKind.wrap_i64];omega
   by_cases hr:(row.length:Int)-1=T.terms
   ·have FX:=zV7 (fun k (hk:k<row.length) (e:okA T.acts.length T.rules.length row[k]=false)=>(show g=false from FTi.out (by unfold zDJ;rw[zAc hk e,Bool.and_false])));have AX:=zV7 (fun k (h:(row.take k).all (okA T.acts.length T.rules.length)=true) (hk:¬k<row.length)=>AS.out (by unfold zDJ;rw[zAt h hk,Bool.and_true,decide_eq_true_eq];exact hr));go_wp2_with fail;generalize wr=w5 at*;clear z0 z1 z2 z3 z4 p0 FTi AS;go_loopw [22] (fun v wz=>∃t:Nat,v=.int .i64 (t:Int)/\t<=row.length/\(row.take t).all (okA T.acts.length T.rules.length)=true/\Below w5.heap.size w5 wz) (fun v _=>row.length-(intOf v).toNat)
    case atStart=>exact⟨0,rfl,Nat.zero_le _,zAz _ _,.refl _ _⟩
    case round=>
     obtain⟨t,rfl,htl,hT,hB2⟩:=hrel;have K:=zV7 hB2;have TT:=zV7 hT;clear hB2 hT
     by_cases hlt2:t<row.length
     ·obtain⟨rb,ro,rfl,p0,p1⟩:=(PP.out.went K.out).at t hlt2;have FXt:=zV7 (FX.out t hlt2);have TS:=zV7 (fun e=>zAy TT.out hlt2 e);generalize row[t]=x at*;obtain⟨x1,x2⟩:=x;dsimp only at p0 p1;have BN:=zV7 (Gr.step K.out (boxed wr (.cells #[.int .i64 x1,.int .i64 x2] 57)));obtain⟨z0,z1,z2,z3,z4⟩:=Z1.out.went (Gr.step B.out BN.out);have htl2:(t:Int)<(row.length:Int):=by omega
      have RX:=zV7 (fun w1=>RA.out w1 (x1,x2));cases hok:okA T.acts.length T.rules.length (x1,x2)with
      |true=>
       have T2:=zV7 (TS.out hok);rw[hok]at RX;clear hok FXt TS;go_wp2_with (go_at_call 100;refine(RX.out _).mono ?_;rintro e w6 ⟨rfl,hb6⟩;have K6:=zV7 (Gr.step BN.out hb6);clear hb6);go_roundw
       case rel=>exact⟨t+1,by go_num,by omega,T2.out,K6.out⟩
       case measure=>first|(simp[intOf];omega)|omega
      |false=>
       have F2:=zV7 (FXt.out hok);rw[hok]at RX;clear hok FXt TS;go_wp2_with (go_at_call 100;refine(RX.out _).mono ?_;rintro e w6 ⟨rfl,hb6⟩;have K6:=zV7 (Gr.step BW.out (Gr.step BN.out hb6));clear hb6);go_ret;exact⟨Gr.zAD F2.out,K6.out⟩
     ·obtain rfl:t=row.length:=by omega
      have A2:=zV7 (AX.out _ TT.out (by omega));go_wp2_with fail;go_roundw
      case rel=>exact⟨i+1,by go_num,by omega,A2.out,Gr.step B.out K.out⟩
      case measure=>first|(simp[intOf];omega)|omega
   ·have F2:=zV7 (FTi.out (by unfold zDJ;rw[decide_eq_false hr];rfl));go_wp2_with fail;go_ret;exact⟨Gr.zAD F2.out,BW.out⟩
  ·have F2:=zV7 (FE.out i A.out hlt);obtain rfl:i=T.acts.length:=by omega
   go_wp2;go_ret;exact⟨Gr.zAD F2.out,Gr.step B1.out B.out⟩
end Pk
namespace Pk
open Gr (zC1 zC0 zCz zDb zDq zAD cell_later boxed)
theorem zOL(x)(h1:0<=x.1)(h2:x.1<=3)(h3:0<=x.2)(h4:x.2<16384)(w):
  Calls Tryz.prog 33 #[.agg #[.int .i64 x.1,.int .i64 x.2]] w (Gr.Is (.int .u16 (zAw x)) w):=by
 have B:=zV7 (boxed w (.cells #[.int .i64 x.1,.int .i64 x.2] 57));obtain⟨k,v⟩:=x;dsimp only at*;have hw1:IntKind.i64.wrap (k*16384)=k*16384:=by rw[IntKind.wrap_i64];omega
 have hw2:IntKind.i64.wrap (k*16384+v)=k*16384+v:=by rw[IntKind.wrap_i64];omega
 have hw3:IntKind.u16.wrap (k*16384+v)=k*16384+v:=by
  show(k*16384+v) % 65536= _;omega
 unfold zAw;dsimp only;go_enter Tryz.func33,Tryz.ntmps33;go_wp2;go_ret;exact⟨rfl,B.out⟩
def zFl(L M:List Int):Bool:=decide (L=M)
theorem zEJ(L M)(a b)(c d)(w)(ha:CodA a L w)(hb:CodA b M w)(hl:L.length<=35184372088832)(hm:M.length<=35184372088832):
  Calls Tryz.prog 37 #[.slice a L.length c,.slice b M.length d] w (Gr.Is (.bool (zFl L M)) w):=by
 have HA:=zV7 ha;have HB:=zV7 hb;clear ha hb
 by_cases hlen:L.length=M.length
 ·have HL:=zV7 hlen;have hle:M.length<=L.length:=by omega
  have hle':L.length<=M.length:=by omega
  have hlb:((L.length:Int) != (M.length:Int))=false:=by simp[hlen]
  clear hlen;go_enter Tryz.func37,Tryz.ntmps37;go_wp2;go_loopw [5] (fun i wr=>∃k:Nat,k<=L.length/\i=.int .i64 k/\Gr.Alike L M k/\Below w.heap.size w wr) (fun i _=>L.length-(intOf i).toNat)
  case atStart=>exact⟨0,Nat.zero_le _,rfl,zC1 _ _,.refl _ _⟩
  case round=>
   obtain⟨k,hk,rfl,hA,hW⟩:=hrel;have A:=zV7 hA;have HW:=zV7 hW;clear hA
   by_cases hlt:k<L.length
   ·have hlm:k<M.length:=by omega
    obtain⟨b1,o1,rfl,h1⟩:=HA.out.at hlt;obtain⟨b2,o2,rfl,h2⟩:=HB.out.at hlm;have k1:=cell_later hW h1;have k2:=cell_later hW h2;clear h1 h2 hW
    by_cases he:L[k]=M[k]
    ·have A2:=zV7 (zC0 A.out hlt hlm he);rw[he]at k1;clear he;generalize M[k]=y at k1 k2;go_wp2;go_quiet (fail);go_wp2;go_roundw
     case rel=>exact⟨k+1,by omega,by go_num,A2.out,HW.out.trans ⟨rfl,rfl,rfl,Nat.le_refl _,fun _ _=>rfl⟩⟩
     case measure=>simp[intOf];omega
    ·have F:=zV7 (show zFl L M=false by simpa[zFl]using zCz hlt hlm he);have E:=(show(L[k] != M[k])=true by simpa using he);clear he;generalize L[k]=x at k1 E;generalize M[k]=y at k2 E;go_wp2;go_quiet (fail);go_wp2;go_ret;exact⟨zAD F.out,HW.out.trans ⟨rfl,rfl,rfl,Nat.le_refl _,fun _ _=>rfl⟩⟩
   ·have F:=zV7 (show zFl L M=true by simpa[zFl]using zDb A.out HL.out hlt);clear hW;go_wp2;go_ret;exact⟨zAD F.out,HW.out⟩
 ·have F:=zV7 (show zFl L M=false by simpa[zFl]using zDq hlen);have hlb:((L.length:Int) != (M.length:Int))=true:=by simpa using fun h=>hlen (by omega)
  clear hlen;go_enter Tryz.func37,Tryz.ntmps37;go_wp2;go_ret;exact⟨zAD F.out,.refl _ _⟩
def plcI(X:List (List Int))(r:List Int):Int:=if r∈X then(X.idxOf r:Int)else-1
theorem zTa{X}{r}{k:Nat}(hk)(hn:r∉X.take k)(e:X[k]=r):plcI X r=(k:Int):=by
 have hm:r∈X:=e▸List.getElem_mem hk;unfold plcI;rw[if_pos hm]
 have h1:X=X.take k++r::X.drop (k+1):=by
  rw[←e,List.getElem_cons_drop,List.take_append_drop]
 have:X.idxOf r=k:=by
  rw[h1,List.idxOf_append,if_neg hn,List.idxOf_cons_self,List.length_take];omega
 rw[this]
theorem zTb{X}{r}{k}(hk:¬k<X.length)(hn:r∉X.take k):plcI X r= -1:=by
 rw[List.take_of_length_le (by omega)]at hn;exact if_neg hn
theorem zQX{X:List (List Int)}{r}{k}(hk)(hn:r∉X.take k)(e:X[k]≠r):r∉X.take (k+1):=by
 rw[List.take_succ_eq_append_getElem hk,List.mem_append,List.mem_singleton];exact fun h=>h.elim hn fun h=>e h.symm
theorem zLq(X)(r)(a b)(c d)(w)(hX:zGi a X w)(hr:CodA b r w)(hl:X.length<=8796093022208)(hm:r.length<=35184372088832):
  Calls Tryz.prog 77 #[.slice a X.length c,.slice b r.length d] w (Gr.Is (.int .i64 (plcI X r)) w):=by
 have HX:=zV7 hX;have SM:=zV7 (fun L a' c' w1 (h1:CodA a' L w1) (b:Below w.heap.size w w1) (h2:L.length<=35184372088832)=>zEJ L r a' _ c' d w1 h1 (hr.went b) h2 hm);have HIT:=zV7 (fun k (hk:k<X.length) (hn:r∉X.take k) e=>zTa (r:=r) hk hn e);have NOT:=zV7 (fun k (hk:¬k<X.length) (hn:r∉X.take k)=>zTb (r:=r) hk hn);clear hX hr;generalize plcI X r=g at*;go_enter Tryz.func77,Tryz.ntmps77;go_wp2;go_loopw [5] (fun i wr=>∃k:Nat,k<=X.length/\i=.int .i64 k/\r∉X.take k/\Below w.heap.size w wr) (fun i _=>X.length-(intOf i).toNat)
 case atStart=>exact⟨0,Nat.zero_le _,rfl,by simp,.refl _ _⟩
 case round=>
  obtain⟨k,hk,rfl,hA,hW⟩:=hrel;have A:=zV7 hA;have HW:=zV7 hW;clear hA
  by_cases hlt:k<X.length
  ·obtain⟨b1,o1,ra,rc,rfl,p0,p1,_,p3⟩:=HX.out.went (fun k=>k.went) hW k hlt;have hil:(k:Int)<(X.length:Int):=by omega
   have SK:=zV7 (SM.out X[k] ra rc wr p1 hW p3);have HK:=zV7 (fun e=>HIT.out k hlt A.out e);have NK:=zV7 (fun e=>zQX hlt A.out e);clear p1 hW;generalize X[k]=row at*
   by_cases he:row=r
   ·have G:=zV7 (HK.out he);rw[show zFl row r=true from decide_eq_true he]at SK;clear he;go_wp2_with (go_at_call 37;refine SK.out.mono ?_;rintro e w1 ⟨rfl,hb⟩;have B1:=zV7 (HW.out.trans (hb.mono HW.out.size));clear hb);go_ret;exact⟨congrArg (fun z=>Ending.returned (Value.int .i64 z)) G.out.symm,B1.out⟩
   ·have A2:=zV7 (NK.out he);rw[show zFl row r=false from decide_eq_false he]at SK;clear he;go_wp2_with (go_at_call 37;refine SK.out.mono ?_;rintro e w1 ⟨rfl,hb⟩;have B1:=zV7 (HW.out.trans (hb.mono HW.out.size));clear hb);go_roundw
    case rel=>exact⟨k+1,by omega,by go_num,A2.out,B1.out⟩
    case measure=>simp[intOf];omega
  ·have G:=zV7 (NOT.out k hlt A.out);clear hW;go_wp2;go_ret;exact⟨congrArg (fun z=>Ending.returned (Value.int .i64 z)) G.out.symm,HW.out⟩
end Pk
namespace Im
theorem zKH(x y):ltOf cmpI x y=decide (ltP x y):=by
 unfold ltOf cmpI orI Lib.compareInt ltP
 by_cases h1:x.1<y.1
 ·simp[h1]
 ·by_cases h2:y.1<x.1
  ·have h3:¬x.1=y.1:=by omega
   simp[h1,h2,h3]
  ·have h3:x.1=y.1:=by omega
   by_cases h4:x.2<y.2
   ·simp[h3,h4]
   ·by_cases h5:y.2<x.2<;>simp[h3,h4,h5]
theorem zTq:Go.Sort.SWO (ltOf cmpI) where
 irrefl x:=by
  rw[zKH,decide_eq_false_iff_not];exact fun h=>h.ne rfl
 trans x y z h1 h2:=by
  rw[zKH,decide_eq_true_iff]at*;exact h1.trans h2
 ntrans x y z h1 h2:=by
  rw[zKH,decide_eq_false_iff_not]at*;unfold ltP at*;omega
theorem zKk:∀{l:List Itm},l.Nodup->l.Pairwise (fun a b=>¬ltP b a)->Srt l
 |[],_,_=>zOa
 |x::l,h,k=>by
  have h':=List.nodup_cons.1 h;have k':=List.pairwise_cons.1 k;refine List.pairwise_cons.2 ⟨fun y hy=>?_,zKk h'.2 k'.2⟩;exact zRn (k'.1 y hy) fun e=>h'.1 (e▸hy)
theorem zMs(d):Go.Sort.flatK ic 2 d=(d.toList.flatMap ic).toArray:=by
 have hl:=zAe d.toList
 apply Array.ext_getElem?
 intro t
 by_cases ht:t<d.size*2
 ·have hi:t / 2<d.toList.length:=by rw[Array.length_toList];omega
  have h:=Rw.zBT ic zA6 d.toList (t / 2) hi (t % 2) (Nat.mod_lt _ (by omega));rw[show t / 2*2+t % 2=t by omega]at h
  conv=>rhs;rw[List.getElem?_toArray,h]
  unfold Go.Sort.flatK;rw[Array.getElem?_map,Array.getElem?_range,if_pos ht];have hi':t / 2<d.size:=by omega
  rw[Option.map_some,getElem!_pos d (t / 2) hi',Array.getElem_toList];rcases Nat.mod_two_eq_zero_or_one t with e|e<;>rw[e]<;>simp[ic]
 ·conv=>rhs;rw[List.getElem?_toArray]
  rw[Array.getElem?_eq_none (by simp;omega),List.getElem?_eq_none (by rw[hl,Array.length_toList];omega)]
theorem zPu{T base:Nat}{X}{g cap}{w}(h:ItsV T base X (.slice (some ⟨g,0,none⟩) X.length cap) w):Go.Sort.HoldsK ic 2 w g 0 X.toArray/\g<w.heap.size:=by
 rcases h.2 with⟨e,_⟩|⟨g',cap',cur,e,_,hb,_,_,h3,h4⟩
 ·cases e
 ·simp only[Value.slice.injEq,Option.some.injEq,Addr.mk.injEq,and_true,true_and]at e;obtain⟨rfl,rfl⟩:=e;refine⟨?_,(Array.getElem?_eq_some_iff.1 hb).1⟩;unfold Go.Sort.HoldsK;rw[zMs];intro j hj;have hl:=zAe X;simp only[List.size_toArray]at hj;refine⟨?_,by simp[World.frozen?,hb]⟩;have h1:(cur.toList.take (X.length*2))[j]?=(X.flatMap ic)[j]?:=by rw[h4]
  rw[List.getElem?_take_of_lt (by omega)]at h1;simp only[World.cell?,hb,Nat.zero_add];simp only[Option.isSome_none,Bool.false_eq_true,if_false];rw[←Array.getElem?_toList,h1];simp only[List.getElem!_toArray,id];rw[List.getElem?_eq_getElem hj,getElem!_pos _ j hj]
theorem zJ7{w}{g n}{os}{cur}{e}{fr}(F)(hb:w.heap[g]?=some (.cells cur e fr)):
  (Go.Sort.grow (Go.Sort.putRow id (Go.Sort.ahead w n) g 0 F) os).heap[g]?=some (.cells (Go.Sort.putCells id 0 F cur) e fr):=by
 have hg:g<w.heap.size:=(Array.getElem?_eq_some_iff.1 hb).1;rw[Go.Sort.heap_grow_old _ _ (by simpa using hg)];simp[Go.Sort.putRow,Go.Sort.mapBlock,Go.Sort.ahead,Array.getElem?_modify,hb,Go.Sort.onCells]
theorem zH2{w:World}{g n}{os}(F):w.grownBy (Go.Sort.grow (Go.Sort.putRow id (Go.Sort.ahead w n) g 0 F) os) (some g):=by
 refine⟨rfl,rfl,rfl,by simp,fun k hk hne=>?_⟩;rw[Go.Sort.heap_grow_old _ _ (by simpa using hk)];have:g≠k:=fun e=>hne (by rw[e])
 simp[Go.Sort.putRow,Go.Sort.mapBlock,Go.Sort.ahead,Array.getElem?_modify,this]
theorem zGh(cur)(L)(h:L.length<=cur.size):(Go.Sort.putCells id 0 L.toArray cur).toList.take L.length=L:=by
 apply List.ext_getElem?
 intro j
 by_cases hj:j<L.length
 ·rw[List.getElem?_take_of_lt hj,Array.getElem?_toList];simp[Go.Sort.putCells,hj,show j<cur.size by omega]
 ·rw[List.getElem?_take_eq_none (by omega),List.getElem?_eq_none (by omega)]
theorem zS3{T base:Nat}{X Y}{g cap n}{w}{os}(h:ItsV T base X (.slice (some ⟨g,0,none⟩) X.length cap) w)(hl:Y.length=X.length):
  ItsV T base Y (.slice (some ⟨g,0,none⟩) X.length cap) (sortWorldK ic 2 w g 0 n Y.toArray os)/\Below base w (sortWorldK ic 2 w g 0 n Y.toArray os):=by
 unfold sortWorldK Go.Sort.putRowK;rw[zMs];rcases h.2 with⟨e,_⟩|⟨g',cap',cur,e,hbase,hb,h1,h2,h3,h4⟩
 ·cases e
 ·simp only[Value.slice.injEq,Option.some.injEq,Addr.mk.injEq,and_true,true_and]at e;obtain⟨rfl,rfl⟩:=e;have hly:=zAe Y;have hgr:=zH2 (w:=w) (g:=g) (n:=n) (os:=os) ((Y.flatMap ic).toArray);refine⟨⟨by rw[hly],.inr ⟨g,cap,_,by rw[hl],hbase,zJ7 _ hb,by omega,h2,by simp[Go.Sort.putCells,h3],?_⟩⟩,?_⟩
  ·rw[←hly];exact zGh cur _ (by rw[hly];have:=Nat.mul_le_mul_right 2 h1;omega)
  ·exact⟨hgr.os,hgr.tape,hgr.output,hgr.size,fun k hk=>(hgr.block k (Nat.lt_of_lt_of_le hk (Nat.le_trans hbase (Nat.le_of_lt (Array.getElem?_eq_some_iff.1 hb).1))) fun e=>by injection e with e;omega)⟩
end Im
namespace Lk
open Im (Gw zEB zG3)
abbrev Lkx:=Int×Option Addr×Nat×Nat
def lks(x:Lkx):Value:=.slice x.2.1 x.2.2.1 x.2.2.2
def lc(x:Lkx):List Value:=[.int .i64 x.1,lks x]
theorem zA7(x):(lc x).length=2:=rfl
theorem zAX(X:List Lkx):(X.flatMap lc).length=X.length*2:=by
 induction X with
 |nil=>rfl
 |cons x X ih=>
  rw[List.flatMap_cons,List.length_append,ih,zA7,List.length_cons];omega
def LksV(base:Nat)(X:List Lkx)(v:Value)(w:World):Prop:=w.ownsRow base 186 2 v X.length (X.flatMap lc)
def cmpL(x y:Lkx):Int:=Lib.compareInt x.1 y.1
theorem zG6(x y):ltOf cmpL x y=decide (x.1<y.1):=by
 unfold ltOf cmpL Lib.compareInt
 by_cases h1:x.1<y.1
 ·simp[h1]
 ·by_cases h2:y.1<x.1<;>simp[h1,h2]
theorem zRK:Go.Sort.SWO (ltOf cmpL) where
 irrefl x:=by
  rw[zG6,decide_eq_false_iff_not];omega
 trans x y z h1 h2:=by
  rw[zG6,decide_eq_true_iff]at*;omega
 ntrans x y z h1 h2:=by
  rw[zG6,decide_eq_false_iff_not]at*;omega
theorem zSV(x y:Lkx)(w:World):
  Calls Tryz.prog 143 #[.agg #[.int .i64 x.1,lks x],.agg #[.int .i64 y.1,lks y]] w fun e w'=>e=.returned (.int .i64 (cmpL x y))/\Gw w w':=by
 have C:=zV7 zEB;unfold cmpL lks;go_enter Tryz.func143,Tryz.ntmps143
 go_wp2_with (first
  |(go_at_call 144;refine(C.out _ _ _).mono ?_;rintro e wn ⟨rfl,rfl⟩)
  |fail)
 go_ret;exact⟨rfl,by first|exact(((Gw.refl w).alloc _).alloc _)|exact(((Gw.refl w).alloc _).alloc _).drew⟩
theorem zMt(d):Go.Sort.flatK lc 2 d=(d.toList.flatMap lc).toArray:=by
 have hl:=zAX d.toList
 apply Array.ext_getElem?
 intro t
 by_cases ht:t<d.size*2
 ·have hi:t / 2<d.toList.length:=by rw[Array.length_toList];omega
  have h:=Rw.zBT lc zA7 d.toList (t / 2) hi (t % 2) (Nat.mod_lt _ (by omega));rw[show t / 2*2+t % 2=t by omega]at h
  conv=>rhs;rw[List.getElem?_toArray,h]
  unfold Go.Sort.flatK;rw[Array.getElem?_map,Array.getElem?_range,if_pos ht];have hi':t / 2<d.size:=by omega
  rw[Option.map_some,getElem!_pos d (t / 2) hi',Array.getElem_toList];rcases Nat.mod_two_eq_zero_or_one t with e|e<;>rw[e]<;>simp[lc]
 ·conv=>rhs;rw[List.getElem?_toArray]
  rw[Array.getElem?_eq_none (by simp;omega),List.getElem?_eq_none (by rw[hl,Array.length_toList];omega)]
theorem zPv{base}{X}{g cap}{w}(h:LksV base X (.slice (some ⟨g,0,none⟩) X.length cap) w):Go.Sort.HoldsK lc 2 w g 0 X.toArray/\g<w.heap.size:=by
 rcases h.2 with⟨e,_⟩|⟨g',cap',cur,e,_,hb,_,_,h3,h4⟩
 ·cases e
 ·simp only[Value.slice.injEq,Option.some.injEq,Addr.mk.injEq,and_true,true_and]at e;obtain⟨rfl,rfl⟩:=e;refine⟨?_,(Array.getElem?_eq_some_iff.1 hb).1⟩;unfold Go.Sort.HoldsK;rw[zMt];intro j hj;have hl:=zAX X;simp only[List.size_toArray]at hj;refine⟨?_,by simp[World.frozen?,hb]⟩;have h1:(cur.toList.take (X.length*2))[j]?=(X.flatMap lc)[j]?:=by rw[h4]
  rw[List.getElem?_take_of_lt (by omega)]at h1;simp only[World.cell?,hb,Nat.zero_add];simp only[Option.isSome_none,Bool.false_eq_true,if_false];rw[←Array.getElem?_toList,h1];simp only[List.getElem!_toArray,id];rw[List.getElem?_eq_getElem hj,getElem!_pos _ j hj]
theorem zTA{base}{X Y}{g cap n}{w}{os}(h:LksV base X (.slice (some ⟨g,0,none⟩) X.length cap) w)(hl:Y.length=X.length):
  LksV base Y (.slice (some ⟨g,0,none⟩) X.length cap) (sortWorldK lc 2 w g 0 n Y.toArray os)/\w.grownBy (sortWorldK lc 2 w g 0 n Y.toArray os) (some g):=by
 unfold sortWorldK Go.Sort.putRowK;rw[zMt];rcases h.2 with⟨e,_⟩|⟨g',cap',cur,e,hbase,hb,h1,h2,h3,h4⟩
 ·cases e
 ·simp only[Value.slice.injEq,Option.some.injEq,Addr.mk.injEq,and_true,true_and]at e;obtain⟨rfl,rfl⟩:=e;have hly:=zAX Y;have hgr:=Im.zH2 (w:=w) (g:=g) (n:=n) (os:=os) ((Y.flatMap lc).toArray);refine⟨⟨by rw[hly],.inr ⟨g,cap,_,by rw[hl],hbase,Im.zJ7 _ hb,by omega,h2,by simp[Go.Sort.putCells,h3],?_⟩⟩,hgr⟩;rw[←hly];exact Im.zGh cur _ (by rw[hly];have:=Nat.mul_le_mul_right 2 h1;omega)
theorem zFI(p:Option Addr)(c:Nat)(fv:Value)(w:World):
  Calls Tryz.prog 195 #[.slice p 0 c,.int .i64 0,.int .i64 0,fv] w fun e w'=>e=.returned (.tuple #[])/\w'=w:=by
 go_enter Tryz.func195,Tryz.ntmps195;go_wp2;refine wp_loop_rounds 1 ?_;rw[rounds_succ];go_wp2;go_end0;exact⟨rfl,rfl⟩
theorem zOB(p:Option Addr)(c:Nat)(lim:Int)(fv:Value)(w:World):
  Calls Tryz.prog 169 #[.slice p 0 c,.int .i64 0,.int .i64 0,.int .i64 lim,fv] w fun e w'=>e=.returned (.tuple #[])/\w'=w:=by
 have hi:=fun W=>zFI p c fv W
 go_enter Tryz.func169,Tryz.ntmps169;go_wp2;refine wp_loop_rounds 1 ?_;rw[rounds_succ];go_wp2_with (go_at_call 195;refine(hi _).mono ?_;rintro e w' ⟨rfl,rfl⟩)
 (try simp only[Exit.inBlock,Exit.then]);refine bodyPost_ret (results_none rfl _ _ _) rfl ?_
 exact⟨rfl,rfl⟩
theorem zLx(p:Option Addr)(c:Nat)(fv:Value)(w:World):
  Calls Tryz.prog 142 #[.slice p 0 c,fv] w fun e w'=>e=.returned (.tuple #[])/\w'=w:=by
 have hp:=fun lim W=>zOB p c lim fv W
 have hl:=zG3;go_enter Tryz.func142,Tryz.ntmps142
 go_wp2_with (first
  |(go_at_call 170;refine(hl _).mono ?_;rintro e w' ⟨rfl,rfl⟩)
  | (go_at_call 169;refine(hp _ _).mono ?_;rintro e w' ⟨rfl,rfl⟩))
 go_end0;exact⟨rfl,rfl⟩
theorem zRG(base)(X)(a)(c)(w)(h:LksV base X (.slice a X.length c) w)(hl:X.length<=1000000):
  Calls Tryz.prog 142 #[.slice a X.length c,.func (.func 143) #[] #[]] w fun e w'=>e=.returned (.tuple #[])/\∃Y,Y.Perm X/\Y.Pairwise (fun a b=>¬b.1<a.1)/\LksV base Y (.slice a X.length c) w'/\w.grownBy w' (Value.slice a X.length c).ownBlock:=by
 have h':=h;rcases h'.2 with⟨e,h0⟩|⟨g,cap,cur,e,hbase,hb,_⟩
 ·simp only[Value.slice.injEq]at e;obtain⟨rfl,_,rfl⟩:=e;obtain rfl:X=[]:=List.eq_nil_of_length_eq_zero h0;exact(zLx none 0 _ w).mono fun e w' ⟨h1,h2⟩=>⟨h1,[],.nil,.nil,by rw[h2];exact h,by rw[h2];exact⟨rfl,rfl,rfl,Nat.le_refl _,fun _ _ _=>rfl⟩⟩
 ·simp only[Value.slice.injEq,true_and]at e;obtain⟨rfl,rfl⟩:=e;obtain⟨hH,hg⟩:=zPv h;have eg:∀args w,(callFunc 143 args).run Tryz.prog w=.ok (.enter 143 args) w:=enters_of Tryz.func143 (by kernel_rfl) rfl;have hcmp:CmpLays Tryz.prog 143 #[] lc 2 cmpL g 0 X.toArray.size w:=fun m os dk _ x y=>(zSV x y _).mono fun e w' ⟨h1,q,os',h2⟩=>⟨h1,q,os',h2⟩
  have hcon:=AnyQ.slices_SortFunc Tryz.sortLk 2 Tryz.isAgg186 Tryz.sizeOf186 lc zA7 (fun x v hv=>by simp[lc,lks]at hv;rcases hv with rfl|rfl<;>rfl) cmpL zRK 143 #[] g 0 c X.toArray w eg hcmp hH hg (by simp;omega);change Calls Tryz.prog 142 _ _ _ at hcon;simp only[List.size_toArray]at hcon;refine hcon.mono ?_;rintro e w' ⟨h1,d',n,os,⟨p1,p2,p3⟩,hs,rfl⟩;simp only[List.size_toArray]at p1 p3
  have hp:d'.toList.Perm X:=by
   have e1:d'.extract 0 X.length=d':=by rw[←p1];simp
   have e2:X.toArray.extract 0 X.length=X.toArray:=by simp
   rw[e1,e2]at p3
   simpa using p3
  have hd:d'=d'.toList.toArray:=by simp
  have hr:=zTA (Y:=d'.toList) (n:=n) (os:=os) h (by rw[Array.length_toList];exact p1);rw[←hd]at hr;refine⟨h1,d'.toList,hp,?_,hr.1,hr.2⟩;rw[List.pairwise_iff_getElem];intro i j hi hj hij;have hi':i<d'.size:=by simpa using hi
  have hj':j<d'.size:=by simpa using hj
  have:=hs i j (Nat.zero_le _) hij (by omega);rw[zG6,decide_eq_false_iff_not,getElem!_pos d' j hj',getElem!_pos d' i hi']at this
  simpa using this
end Lk
namespace Im
theorem zRF(base)(X)(a)(c)(w)(h:ItsV 181 base X (.slice a X.length c) w)(hl:X.length<=1000000):
  Calls Tryz.prog 230 #[.slice a X.length c,.func (.func 219) #[] #[]] w fun e w'=>e=.returned (.tuple #[])/\∃Y,Y.Perm X/\Y.Pairwise (fun a b=>¬ltP b a)/\ItsV 181 base Y (.slice a X.length c) w'/\Below base w w':=by
 have h':=h;rcases h'.2 with⟨e,h0⟩|⟨g,cap,cur,e,hbase,hb,_⟩
 ·simp only[Value.slice.injEq]at e;obtain⟨rfl,_,rfl⟩:=e;obtain rfl:X=[]:=List.eq_nil_of_length_eq_zero h0;exact(zOY none 0 _ w).mono fun e w' ⟨h1,h2⟩=>⟨h1,[],.nil,.nil,by rw[h2];exact h,by rw[h2];exact .refl _ _⟩
 ·simp only[Value.slice.injEq,true_and]at e;obtain⟨rfl,rfl⟩:=e;obtain⟨hH,hg⟩:=zPu h;have eg:∀args w,(callFunc 219 args).run Tryz.prog w=.ok (.enter 219 args) w:=enters_of Tryz.func219 (by kernel_rfl) rfl;have hcmp:CmpLays Tryz.prog 219 #[] ic 2 cmpI g 0 X.toArray.size w:=fun m os dk _ x y=>(zIv x y _).mono fun e w' ⟨h1,q,os',h2⟩=>⟨h1,q,os',h2⟩
  have hcon:=AnyQ.slices_SortFunc Tryz.sortItm 2 Tryz.isAgg181 Tryz.sizeOf181 ic zA6 (fun x v hv=>by simp[ic]at hv;rcases hv with rfl|rfl<;>rfl) cmpI zTq 219 #[] g 0 c X.toArray w eg hcmp hH hg (by simp;omega);change Calls Tryz.prog 230 _ _ _ at hcon;simp only[List.size_toArray]at hcon;refine hcon.mono ?_;rintro e w' ⟨h1,d',n,os,⟨p1,p2,p3⟩,hs,rfl⟩;simp only[List.size_toArray]at p1 p3
  have hp:d'.toList.Perm X:=by
   have e1:d'.extract 0 X.length=d':=by rw[←p1];simp
   have e2:X.toArray.extract 0 X.length=X.toArray:=by simp
   rw[e1,e2]at p3
   simpa using p3
  have hd:d'=d'.toList.toArray:=by simp
  have hr:=zS3 (Y:=d'.toList) (n:=n) (os:=os) h (by rw[Array.length_toList];exact p1);rw[←hd]at hr;refine⟨h1,d'.toList,hp,?_,hr⟩;rw[List.pairwise_iff_getElem];intro i j hi hj hij;have hi':i<d'.size:=by simpa using hi
  have hj':j<d'.size:=by simpa using hj
  have:=hs i j (Nat.zero_le _) hij (by omega);rw[zKH,decide_eq_false_iff_not,getElem!_pos d' j hj',getElem!_pos d' i hi']at this
  simpa using this
theorem zGm(Bm b nn)(X)(w)(hBm:Bm<w.heap.size)(hm:w.cell? ⟨Bm,0,none⟩=some (.map (some b)))(hs:MS b nn X w)(hnn:nn<=1000000):
  Calls Tryz.prog 234 #[.slice none 0 0,seqv Bm] w (zR5 X w):=
 (callsIn_wide (n:=3)).1 (appendSeq_in Fence.wide 3 trivial trivial rfl (by omega) Bm b nn X w hBm hm hs hnn)
theorem zIu(Bm b nn)(X)(w)(hBm:Bm<w.heap.size)(hm:w.cell? ⟨Bm,0,none⟩=some (.map (some b)))(hs:MS b nn X w)(hnn:nn<=1000000):
  Calls Tryz.prog 229 #[seqv Bm] w (zR5 X w):=by
 have A:=zV7 (zGm Bm b nn X w hBm hm hs hnn);clear hm hs;go_enter Tryz.func229,Tryz.ntmps229;go_wp2_with (go_at_call 234;refine A.out.mono ?_;rintro e w1 ⟨v,ss,rfl,h1,h2,h3⟩;have H1:=zV7 h1;have H2:=zV7 h2;have H3:=zV7 h3;clear h1 h2 h3);go_ret;exact⟨v,ss,rfl,H1.out,H2.out,H3.out⟩
theorem zP3(b)(w):Calls Tryz.prog 218 #[.map (some b)] w fun e w'=>e=.returned (seqv w.heap.size)/\w'=w.alloc (.cells #[.map (some b)] 250):=by
 go_enter Tryz.func218,Tryz.ntmps218;go_wp2;go_ret;exact⟨rfl,rfl⟩
def zEz(P:Itm->Prop)(w:World)(e:Ending)(w':World):Prop:=∃(Y:List Itm) (a:Option Addr) (c:Nat),e=.returned (.slice a Y.length c)/\Is Y P/\ItsV 181 w.heap.size Y (.slice a Y.length c) w'/\Below w.heap.size w w'
theorem zGC(Bm b nn)(X)(w)(hBm:Bm<w.heap.size)(hm:w.cell? ⟨Bm,0,none⟩=some (.map (some b)))(hs:MS b nn X w)(hnn:nn<=1000000)(M:List Itm)(hM:∀x,X x->x∈M)(hML:M.length<=1000000):
  Calls Tryz.prog 217 #[seqv Bm,.func (.func 219) #[] #[]] w (zEz (fun x=>X x/\W64 x) w):=by
 have C:=zV7 (zIu Bm b nn X w hBm hm hs hnn);clear hm hs;have HM:=zV7 hM;clear hM;go_enter Tryz.func217,Tryz.ntmps217
 go_wp2_with (first
  |(go_at_call 229;refine C.out.mono ?_;rintro e w1 ⟨v,ss,rfl,h1,h2,h3⟩;obtain⟨a,c,rfl,hc⟩:=h2.shape;have hlen:=Nat.le_trans (zDs h1.nd fun x hx=>HM.out x ((h1.mem x (h1.fit x hx)).1 hx)) hML;have H1:=zV7 h1;have H2:=zV7 h2;have H3:=zV7 h3;clear h1 h2 h3)
  | (go_at_call 230;refine(zRF _ ss a c _ H2.out hlen).mono ?_;rintro e w2 ⟨rfl,Y,k1,k2,k3,k4⟩;have K1:=zV7 k1;have K2:=zV7 k2;have K3:=zV7 k3;have K4:=zV7 k4;clear k1 k2 k3 k4))
 go_ret;have el:=K1.out.length_eq;refine⟨Y,a,c,by rw[el];rfl,⟨zKk (K1.out.nodup_iff.2 H1.out.nd) K2.out,fun x=>?_⟩,by rw[el];exact K3.out,H3.out.trans K4.out⟩;rw[K1.out.mem_iff];exact⟨fun hx=>⟨(H1.out.mem x (H1.out.fit x hx)).1 hx,H1.out.fit x hx⟩,fun⟨h1,h2⟩=>(H1.out.mem x h2).2 h1⟩
theorem zEt(b nn)(X)(w)(hs:MS b nn X w)(hnn:nn<=1000000)(M:List Itm)(hM:∀x,X x->x∈M)(hML:M.length<=1000000):
  Calls Tryz.prog 180 #[.map (some b)] w (zEz (fun x=>X x/\W64 x) w):=by
 have hb:Below w.heap.size w (w.alloc (.cells #[.map (some b)] 250)):=Gr.boxed _ _;have S:=zV7 (zGC w.heap.size b nn X (w.alloc (.cells #[.map (some b)] 250)) (by simp) (Gr.zAC rfl rfl) (hs.went hb) hnn M hM hML);have K:=zV7 (zP3 b w);clear hs;go_enter Tryz.func180,Tryz.ntmps180
 go_wp2_with (first
  |(go_at_call 218;refine K.out.mono ?_;rintro e w1 ⟨rfl,rfl⟩)
  | (go_at_call 217;refine S.out.mono ?_;rintro e w2 ⟨Y,a,c,rfl,h1,h2,h3⟩;have H1:=zV7 h1;have H2:=zV7 h2;have H3:=zV7 h3;clear h1 h2 h3))
 go_ret;exact⟨Y,a,c,rfl,H1.out,H2.out.mono (by simp),hb.trans (H3.out.mono (by simp))⟩
