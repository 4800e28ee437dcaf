/- A part of the proof. -/
import Derived.Test.YtkcaedinfnajaaaGreatDoorPk31
set_option maxHeartbeats 4000000
set_option maxRecDepth 100000
set_option linter.unusedVariables false
namespace Go.Proofs.YtkcaedinfnajaaaGreatDoor
namespace Ac
open Go.RowKit Go.Maps
open Au
open Rg
open Go.Proofs.YtkcaedinfnajaaaGreatDoor.Sep
attribute [local go_sem] Oper.semAt_some
def clv(x:Cl4):Value:=.agg #[.int .i64 x.1,.int .i64 x.2.1,.int .i64 x.2.2.1.1,.int .i64 x.2.2.1.2,.int .i64 x.2.2.2.1,.int .i64 x.2.2.2.2]
noncomputable def encC(m:Am)(q:Whole):Nat->Array Value:=fun k=>#[clv ((zA6 m.G q).getD k (0,0,(0,0),(0,0)))]
def oCl(wD:World)(b1:Nat):Nat->Prop:=fun k=>k<wD.heap.size\/k=b1
def yObj(l:Nat):Obj:=.cells #[.func (.yield l) #[] #[]] 122 (0,0)
structure CSt (J:Nat->(Nat->Prop)->World->Prop) (S O:Nat->Prop) (W:World) (l k:Nat) (S1:Nat->Prop) (ds:List Deferred) (wr:World):Prop where
 st:St J S O W k S1 wr
 marks:Marks W S1 wr ds
 yb:Mine W S1 wr W.heap.size (yObj l)
section
variable {J:Nat->(Nat->Prop)->World->Prop} {S O S1:Nat->Prop} {W wr w':World} {l k:Nat} {ds:List Deferred}
theorem CSt.alloc(h:CSt J S O W l k S1 ds wr)(hJ:Holds W.heap.size J)(o:Obj):CSt J S O W l k S1 ds (wr.alloc o):=⟨h.st.alloc hJ o,h.marks.alloc o,h.yb.alloc o⟩
theorem CSt.went(h:CSt J S O W l k S1 ds wr)(hJ:Holds W.heap.size J)(hb:Below wr.heap.size wr w'):CSt J S O W l k S1 ds w':=
 ⟨h.st.went hJ hb,h.marks.own (T:=fun _=>False) (.of_below hb) fun _ h=>h.elim,h.yb.went hb⟩
end
theorem zAP{w:World}{b k:Nat}{cs:Array Value}{T:TypeId}(h:w.heap[b]?=some (.cells cs T (0,0)))(v:Value):(w.setCell ⟨b,k,none⟩ v).heap[b]?=some (.cells (cs.setIfInBounds k v) T (0,0)):=by
 rw[setCell_eq_setRow w b k cs T (0,0) v h];exact setRow_heap w b cs _ T (0,0) h
theorem zAK{w:World}{b k:Nat}{cs:Array Value}{T:TypeId}(h:w.heap[b]?=some (.cells cs T (0,0))):w.frozen? ⟨b,k,none⟩=false:=by
 simp[World.frozen?,h]
noncomputable def fk(m:Am)(q:Whole)(i t k:Nat):Ac2:=if k=0 then(0,0)else(actL m.G q i t).getD 0 (0,0)
def aObj(x:Ac2):Obj:=.cells #[.int .i64 x.1,.int .i64 x.2] 47 (0,0)
def inI(J:Nat->(Nat->Prop)->World->Prop)(S O:Nat->Prop)(W:World)(m:Am)(q:Whole)(i t bf:Nat)(k:Nat)(S':Nat->Prop)(w:World):Prop:=
 ∃S3,S'=(fun x=>S3 x\/x=bf)/\St J S O W (cT m.G q i t+(k-1)) S3 w/\Mine W S3 w bf (aObj (fk m q i t k))
def inX(Jx:Nat->(Nat->Prop)->World->Prop)(S X:Nat->Prop)(W:World)(N bf:Nat)(c:Code)(k:Nat)(S':Nat->Prop)(w:World):Prop:=
 c=.ret/\∃S3 k',S'=(fun x=>S3 x\/x=bf)/\k'<=N/\Fin Jx S X W k' S3 w
theorem zMn{J:Nat->(Nat->Prop)->World->Prop}{S O:Nat->Prop}{W w5:World}(hJ:Holds W.heap.size J)(hs:W.heap.size<=w5.heap.size)(m:Am)(q:Whole)(i t bf:Nat):Holds w5.heap.size (inI J S O W m q i t bf):=by
 rintro k S' T A A' ⟨S3,rfl,st,mb⟩ hi hf hT;exact⟨S3,rfl,st.own hJ hf fun x hx=>⟨Nat.le_trans hs (hT x hx).1,fun h=>(hT x hx).2 (.inl h)⟩,mb.own hf fun h=>(hT _ h).2 (.inr rfl)⟩
theorem zMq{Jx:Nat->(Nat->Prop)->World->Prop}{S X:Nat->Prop}{W w5:World}(hJx:Holds W.heap.size Jx)(hs:W.heap.size<=w5.heap.size)(N bf:Nat)(c:Code):Holds w5.heap.size (inX Jx S X W N bf c):=by
 rintro k S' T A A' ⟨rfl,S3,k',rfl,hk,st⟩ hi hf hT;exact⟨rfl,S3,k',rfl,hk,st.own hJx hf fun x hx=>⟨Nat.le_trans hs (hT x hx).1,fun h=>(hT x hx).2 (.inl h)⟩⟩
structure PW (J:Nat->(Nat->Prop)->World->Prop) (S:Nat->Prop) (W:World) (m:Am) (wD:World) (b1 l k i t br bx:Nat) (S2:Nat->Prop) (ds:List Deferred) (w5:World):Prop where
 c:CSt J S (oCl wD b1) W l k S2 ds w5
 bi:Mine W S2 w5 br (.cells #[.int .i64 (i:Int)] 3 (0,0))
 bt:Mine W S2 w5 bx (.cells #[.int .i64 (t:Int)] 3 (0,0))
 bf:Mine W S2 w5 (bx+1) (aObj (0,0))
 p1:w5.heap[bx+1+1]?=some (.cells (amc m) 81 (0,0))
 p2:w5.heap[bx+1+1+1]?=some (.cells #[.int .i64 (i:Int)] 3 (0,0))
 p3:w5.heap[bx+1+1+1+1]?=some (.cells #[.int .i64 (t:Int)] 3 (0,0))
 from_:W.heap.size<=bx
 le5:W.heap.size<=w5.heap.size
 off:Off (fun x=>S2 x\/x=bx+1) (zCN wD (bx+1+1) (bx+1+1+1) (bx+1+1+1+1))
 inn5:Inn (zCN wD (bx+1+1) (bx+1+1+1) (bx+1+1+1+1)) w5
 inn:Inn (fun x=>S2 x\/x=bx+1) w5
theorem zLH{J:Nat->(Nat->Prop)->World->Prop}{S S2:Nat->Prop}{W wx w5 wD:World}{m:Am}{b1 l k i t br:Nat}{ds:List Deferred}(hJ:Holds W.heap.size J)(hD:wD.heap.size<=W.heap.size)(hin:Inn S2 wx)
  (h4:CSt J S (oCl wD b1) W l k S2 ds ((wx.alloc (.cells #[.int .i64 (t:Int)] 3)).alloc (.cells #[.int .i64 0,.int .i64 0] 47)))
  (hbi:Mine W S2 ((wx.alloc (.cells #[.int .i64 (t:Int)] 3)).alloc (.cells #[.int .i64 0,.int .i64 0] 47)) br (.cells #[.int .i64 (i:Int)] 3 (0,0)))
  (hbt:Mine W S2 ((wx.alloc (.cells #[.int .i64 (t:Int)] 3)).alloc (.cells #[.int .i64 0,.int .i64 0] 47)) wx.heap.size (.cells #[.int .i64 (t:Int)] 3 (0,0)))
  (hbf:Mine W S2 ((wx.alloc (.cells #[.int .i64 (t:Int)] 3)).alloc (.cells #[.int .i64 0,.int .i64 0] 47)) (wx.heap.size+1) (.cells #[.int .i64 0,.int .i64 0] 47 (0,0)))
  (hw:w5=zGw m i t ((wx.alloc (.cells #[.int .i64 (t:Int)] 3)).alloc (.cells #[.int .i64 0,.int .i64 0] 47))):
  PW J S W m wD b1 l k i t br wx.heap.size S2 ds w5:=by
 subst hw;have hx:W.heap.size<=wx.heap.size:=hbt.1;generalize hw4:(wx.alloc (.cells #[.int .i64 (t:Int)] 3)).alloc (.cells #[.int .i64 0,.int .i64 0] 47)=w4 at*;have hs4:w4.heap.size=wx.heap.size+1+1:=by rw[←hw4];simp
 have hb:Below w4.heap.size w4 (zGw m i t w4):=(((Below.refl _ w4).alloc (Nat.le_refl _) _).alloc (by simp) _).alloc (by simp;omega) _;have e:(zGw m i t w4).heap.size=wx.heap.size+1+1+1+1+1:=by simp[zGw,hs4]
 have hk:∀{w:World} {b:Nat} {o o':Obj},w.heap[b]?=some o->(w.alloc o').heap[b]?=some o:=fun {w b o o'} h=>(Below.heap_alloc w o' b (Array.getElem?_eq_some_iff.1 h).1).trans h
 have q1:(w4.alloc (.cells (amc m) 81)).heap[wx.heap.size+1+1]?=some (.cells (amc m) 81 (0,0)):=by rw[←hs4];exact World.alloc_heap_new _ _
 have q2:((w4.alloc (.cells (amc m) 81)).alloc (.cells #[.int .i64 (i:Int)] 3)).heap[wx.heap.size+1+1+1]?=some (.cells #[.int .i64 (i:Int)] 3 (0,0)):=by
  have:=World.alloc_heap_new (w4.alloc (.cells (amc m) 81)) (.cells #[.int .i64 (i:Int)] 3)
  rwa [World.size_alloc,hs4]at this
 have q3:(zGw m i t w4).heap[wx.heap.size+1+1+1+1]?=some (.cells #[.int .i64 (t:Int)] 3 (0,0)):=by
  have:=World.alloc_heap_new ((w4.alloc (.cells (amc m) 81)).alloc (.cells #[.int .i64 (i:Int)] 3)) (.cells #[.int .i64 (t:Int)] 3)
  rwa [World.size_alloc,World.size_alloc,hs4]at this
 refine⟨h4.went hJ hb,hbi.went hb,hbt.went hb,hbf.went hb,hk (hk q1),hk q2,q3,hx,by omega,?_,?_,?_⟩
 ·rintro x hx' ho;have h1:x<wx.heap.size+1+1:=hx'.elim (fun h=>by have:=hin x h;omega) fun h=>by omega
  rcases ho with h|h|h|h
  ·rcases hx' with h2|h2
   ·exact h4.st.off x h2 (.inl h)
   ·omega
  all_goals omega
 ·rintro x (h|h|h|h)
  all_goals omega
 ·rintro x (h|h)
  ·have:=hin x h;omega
  ·omega
theorem zHE(m:Am)(q:Whole)(wD w0:World)(D:Dat m q wD)(hb:Below wD.heap.size wD w0)(b1:Nat)
  (h1:w0.heap[b1]?=some (.cells (amc m) 81 (0,0))):
  Rg.Yields Tryz.prog 73 #[.pointer (some ⟨b1,0,none⟩)] (encC m q) (zA6 m.G q).length (oCl wD b1) w0:=by
 intro l J Jx S X W hF hO hin hiX hJ hJx hY h0
 have hOi:Inn (oCl wD b1) w0:=by
  rintro k (h|rfl)
  ·have:=hb.size;omega
  ·exact(Array.getElem?_eq_some_iff.1 h1).1
 have hOW:=hOi.le hF.size;have g1:W.heap[b1]?=some (.cells (amc m) 81 (0,0)):=(hF.block b1 (hOi b1 (.inr rfl)) fun hs=>hO b1 hs (.inr rfl)).trans h1;have hbW:Below wD.heap.size wD W:=⟨hF.os.trans hb.os,hF.tape.trans hb.tape,hF.output.trans hb.output,Nat.le_trans hb.size hF.size,fun x hx=>(hF.block x (by have:=hb.size;omega) fun hs=>hO x hs (.inl hx)).trans (hb.block x hx)⟩;clear h1;have hnS:m.nS=q.1.length:=by rw[D.nS,zAp D.done.all]
 have HN:=zVZ hnS;have hDW:wD.heap.size<=W.heap.size:=Nat.le_trans hb.size hF.size;have hsm:m.nS<=2000:=by have:=D.len;omega
 have hT:m.G.terms.length<=100000:=D.few.2
 have RD:=zVZ (show∀(J':Nat->(Nat->Prop)->World->Prop) (k:Nat) (S1:Nat->Prop) (W1:World),St J' S (oCl wD b1) W k S1 W1->Dat m q W1/\Below wD.heap.size wD W1/\AmC m b1 W1 from
  fun J' k S1 W1 st=>by
   have hbx:=st.below hO hbW (fun x hx=> .inl hx) (Nat.le_trans hb.size hF.size)
   exact⟨D.went hbx,hbx,zAZ ((st.same hOW hO (.inr rfl)).trans g1)⟩)
 have YD:=zVZ (show∀(k:Nat) (x:Cl4) (S1:Nat->Prop) (W1:World),(zA6 m.G q)[k]?=some x->St J S (oCl wD b1) W k S1 W1->YieldAt Fence.wide 0 Tryz.prog l #[clv x] W1 (Said X J Jx k S1 W1)from
  fun k x S1 W1 hx st=>by
   have h:=hY k S1 W1 (List.getElem?_eq_some_iff.1 hx).1 st.j st.inn;unfold encC at h;rw[List.getD_eq_getElem?_getD,hx]at h
   exact h)
 have DN:=zVZ (show∀(S1:Nat->Prop) (W1:World),St J S (oCl wD b1) W (cI m.G q m.nS) S1 W1->∀v,(∃v',Ending.returned v=.returned v')/\∃S',Inn S' W1/\((Ext S' S W/\Fr S W W1/\J (zA6 m.G q).length S' W1)\/(Ext S' (Or2 S X) W/\Fr (Or2 S X) W W1/\∃k,k<=(zA6 m.G q).length/\Jx k S' W1))from
  fun S1 W1 st v=>⟨⟨v,rfl⟩,S1,st.inn,.inl ⟨st.ext,st.fr,by have:=st.j;rwa [hnS,zRs]at this⟩⟩)
 have S0:=zVZ (show CSt J S (oCl wD b1) W l 0 S [] (W.alloc (.cells #[.func (.yield l) #[] #[]] 122))from
  ⟨(St.start (O:=oCl wD b1) h0 hin hO).alloc hJ _,.nil,(St.start (O:=oCl wD b1) h0 hin hO).new⟩)
 obtain⟨d0,hb0,c0,c1,c2,c3,c4,c5⟩:=RD.out _ _ _ _ S0.out.st;have DD:=zVZ (⟨D,hb⟩:Dat m q wD/\_);clear hY h0 hin g1 hOi D hb hbW hF hnS;refine zJO (n:=9) (o:=none) ?_;refine callsIn_of_wp_marks Tryz.func73 rfl trivial ?_ rfl;simp only[Tryz.ntmps73,List.size_toArray,List.length_cons,List.length_nil,Nat.reduceAdd,Nat.reduceSub,Array.replicate_succ,Array.replicate_zero,List.push_toArray,List.append_toArray,List.nil_append,List.cons_append]
 gi_wp2
 refine wpIn_loop (fun a' wx=>∃(u3 u4 u5 u6 u10 u11 u12 u13 u14 u15 u16 u17 u18 u19 u20 u21 u22 u23 u24 u25 u26 u27 u28 u29 u30 u31 u32 u33 u34 u35 u36 u37 u38 u39:Value) (ds:List Deferred),(∃(i:Nat) (S1:Nat->Prop),u10=.int .i64 (i:Int)/\i<=m.nS/\CSt J S (oCl wD b1) W l (cI m.G q i) S1 ds wx)/\a'={tmps:=List.toArray (.func (.yield l) #[] #[]::.pointer (some ⟨b1,0,none⟩)::.pointer (some ⟨W.heap.size,0,none⟩)::u3::u4::u5::u6::.pointer (some ⟨b1,4,none⟩)::.slice m.aS m.nS m.cS::.int .i64 (m.nS:Int)::u10::u11::u12::u13::u14::u15::u16::u17::u18::u19::u20::u21::u22::u23::u24::u25::u26::u27::u28::u29::u30::u31::u32::u33::u34::u35::u36::u37::u38::u39::[]),defers:=ds}) (fun a' _=>m.nS-(intOf (a'.tmps.getD 10 undef)).toNat) ?_ ?_
 case refine_1=>
  (repeat apply Exists.intro)
  refine⟨?_,rfl⟩;exact⟨0,_,rfl,Nat.zero_le _,S0.out⟩
 case refine_2=>
  clear c0 c1 c2 c3 c4 c5 S0 d0 hb0;rintro a' wr ⟨u3,u4,u5,u6,u10,u11,u12,u13,u14,u15,u16,u17,u18,u19,u20,u21,u22,u23,u24,u25,u26,u27,u28,u29,u30,u31,u32,u33,u34,u35,u36,u37,u38,u39,ds,⟨i,S1,rfl,hi,cst⟩,rfl⟩;have ST:=zVZ cst;clear cst;obtain⟨d0,hb0,c0,c1,c2,c3,c4,c5⟩:=RD.out _ _ _ _ (ST.out.st.alloc hJ (.cells #[.int .i64 (i:Int)] 3));have BI:=zVZ (ST.out.st.new (o:=.cells #[.int .i64 (i:Int)] 3))
  by_cases hlt:i<m.nS
  ·gi_wp2
   refine wpIn_loop (fun a' wx=>∃(u4 u5 u6 u18 u19 u20 u21 u22 u23 u24 u25 u26 u27 u28 u29 u30 u31 u32 u33 u34 u35 u36 u37 u38 u39:Value) (ds:List Deferred),(∃(t:Nat) (S2:Nat->Prop),u18=.int .i64 (t:Int)/\t<=m.G.terms.length+1/\CSt J S (oCl wD b1) W l (cT m.G q i t) S2 ds wx/\Mine W S2 wx wr.heap.size (.cells #[.int .i64 (i:Int)] 3 (0,0)))/\a'={tmps:=List.toArray (.func (.yield l) #[] #[]::.pointer (some ⟨b1,0,none⟩)::.pointer (some ⟨W.heap.size,0,none⟩)::.pointer (some ⟨wr.heap.size,0,none⟩)::u4::u5::u6::.pointer (some ⟨b1,4,none⟩)::.slice m.aS m.nS m.cS::.int .i64 (m.nS:Int)::.int .i64 (i:Int)::.bool true::.int .i64 (i:Int)::.pointer (some ⟨b1,0,none⟩)::.pointer (some ⟨b1,0,none⟩)::.slice m.h.a1 m.G.terms.length m.h.c1::.int .i64 (m.G.terms.length:Int)::.int .i64 ((m.G.terms.length:Int)+1)::u18::u19::u20::u21::u22::u23::u24::u25::u26::u27::u28::u29::u30::u31::u32::u33::u34::u35::u36::u37::u38::u39::[]),defers:=ds}) (fun a' _=>m.G.terms.length+1-(intOf (a'.tmps.getD 18 undef)).toNat) ?_ ?_
   case refine_1=>
    (repeat apply Exists.intro)
    refine⟨?_,rfl⟩;exact⟨0,_,rfl,Nat.zero_le _,ST.out.alloc hJ _,BI.out⟩
   case refine_2=>
    clear c0 c1 c2 c3 c4 c5 d0 hb0 BI;rintro a' wx ⟨u4,u5,u6,u18,u19,u20,u21,u22,u23,u24,u25,u26,u27,u28,u29,u30,u31,u32,u33,u34,u35,u36,u37,u38,u39,ds2,⟨t,S2,rfl,ht,cst,bi⟩,rfl⟩;have C2:=zVZ cst;have BI:=zVZ bi;clear cst bi;have C4:=zVZ ((C2.out.alloc hJ (.cells #[.int .i64 (t:Int)] 3)).alloc hJ (.cells #[.int .i64 0,.int .i64 0] 47));obtain⟨d0,hb0,c0,c1,c2,c3,c4,c5⟩:=RD.out _ _ _ _ C4.out.st;have BI4:=zVZ ((BI.out.alloc (.cells #[.int .i64 (t:Int)] 3)).alloc (.cells #[.int .i64 0,.int .i64 0] 47));have BT4:=zVZ ((C2.out.st.new (o:=.cells #[.int .i64 (t:Int)] 3)).alloc (.cells #[.int .i64 0,.int .i64 0] 47))
    have BF4:=zVZ (show Mine W S2 ((wx.alloc (.cells #[.int .i64 (t:Int)] 3)).alloc (.cells #[.int .i64 0,.int .i64 0] 47)) (wx.heap.size+1) (.cells #[.int .i64 0,.int .i64 0] 47 (0,0))from by
     have:=(C2.out.st.alloc hJ (.cells #[.int .i64 (t:Int)] 3)).new (o:=.cells #[.int .i64 0,.int .i64 0] 47)
     rwa [World.size_alloc]at this)
    have c6:=zAA (cs:=#[.int .i64 (i:Int)]) BI4.out.2.2 (k:=0) (by simp);have c7:=zAA (cs:=#[.int .i64 (t:Int)]) BT4.out.2.2 (k:=0) (by simp);have PA:=zVZ (show∀w1,Calls Tryz.prog 74 #[.agg #[.slice m.h.a1 m.G.terms.length m.h.c1,.slice m.h.a2 m.G.nons.length m.h.c2,.slice m.h.a3 m.G.rules.length m.h.c3,.int .i64 m.G.start,.slice m.aS m.nS m.cS,.slice m.aL m.nL m.cL],.int .i64 (i:Int),.int .i64 (t:Int)] w1 _ from fun w1=>zJ4 m i t w1)
    by_cases hlt2:t<m.G.terms.length+1
    ·gi_wp2_with (refine⟨trivial,?_⟩;gi_at_call 74;refine(zBK (PA.out _)).mono ?_;rintro e w5 ⟨rfl,hw5⟩;have HW5:=zVZ hw5;clear hw5)
     clear c0 c1 c2 c3 c4 c5 c6 c7 d0 hb0 PA;have X5:=zVZ (zLH (l:=l) hJ hDW C2.out.st.inn C4.out BI4.out BT4.out BF4.out HW5.out);have hbr:wr.heap.size<wx.heap.size:=BI.out.lt;clear HW5 C4 BI4 BT4 BF4 BI C2;have hwx:W.heap.size<=wx.heap.size:=X5.out.from_;have hi':i<q.1.length:=by rw[←HN.out];exact hlt
     have hqp:=zE8 m q wD w5 DD.out.1 (RD.out _ _ _ _ X5.out.c.st).2.1 i t _ _ _ hi' X5.out.p1 X5.out.p2 X5.out.p3
     refine zFD (n:=9) (gf:=93) (lb:=#[.pointer (some ⟨wx.heap.size+1+1,0,none⟩),.pointer (some ⟨wx.heap.size+1+1+1,0,none⟩),.pointer (some ⟨wx.heap.size+1+1+1+1,0,none⟩)]) rfl (enters_of Tryz.func93 (by kernel_rfl) rfl)
      (encs:=encP m q i t) hqp (fun _=>rfl) (inI J S (oCl wD b1) W m q i t (wx.heap.size+1)) (inX Jx S X W (zA6 m.G q).length (wx.heap.size+1)) (zMn hJ X5.out.le5 m q i t _) (zMq hJx X5.out.le5 _ _)
      (fun x=>S2 x\/x=wx.heap.size+1) X X5.out.off X5.out.inn5 X5.out.inn (hiX.le X5.out.le5) ⟨S2,rfl,by simpa using X5.out.c.st,by simpa[fk]using X5.out.bf⟩ ?round ?done ?stop
     case round=>
      rintro l' k S' w1 hk hl5 hl1 hnl ⟨S3,rfl,st,mb⟩ hin he hf;obtain⟨x,hx⟩:∃x,(actL m.G q i t)[k]?=some x:=⟨_,List.getElem?_eq_getElem hk⟩;have hx':(actL m.G q i t).getD k (0,0)=x:=by rw[List.getD_eq_getElem?_getD,hx];rfl
      have hne3:¬S3 l':=fun h=>hnl (.inl h)
      have RM:=zVZ (show∀(b:Nat) (o:Obj),b≠wx.heap.size+1->Mine W S2 w5 b o->∀w2,Fr (fun x=>x=l') (w1.alloc (.cells #[.int .i64 x.1,.int .i64 x.2] 47)) w2->Mine W S3 w2 b o from
       fun b o hb hm w2 h2=>(((hm.ranged hb he hf).alloc _).own h2 (by have:=hm.lt;omega)))
      have MB:=zVZ (show∀w2,Fr (fun x=>x=l') (w1.alloc (.cells #[.int .i64 x.1,.int .i64 x.2] 47)) w2->Mine W S3 w2 (wx.heap.size+1) (aObj (fk m q i t k))from fun w2 h2=>(mb.alloc _).own h2 (fun h=>hnl (.inr h.symm)));have MA:=zVZ (show∀w2,Fr (fun x=>x=l') (w1.alloc (.cells #[.int .i64 x.1,.int .i64 x.2] 47)) w2->w2.heap[w1.heap.size]?=some (.cells #[.int .i64 x.1,.int .i64 x.2] 47 (0,0))from fun w2 h2=>zAV h2 (World.alloc_heap_new _ _) (by omega));have S4:=zVZ (show∀w2,Fr (fun x=>x=l') (w1.alloc (.cells #[.int .i64 x.1,.int .i64 x.2] 47)) w2->St J S (oCl wD b1) W (cT m.G q i t+(k-1)) S3 w2 from fun w2 h2=>(st.alloc hJ _).own hJ h2 (by rintro y rfl;exact⟨Nat.le_trans X5.out.le5 hl5,hne3⟩));have hbx:wx.heap.size+1<w1.heap.size:=mb.lt;unfold encP acv;rw[hx'];clear st mb hf hin hx'
      gi_wp2
      refine⟨(Fr.refl _ w1).alloc _,fun w2 h2 hs2=>?_⟩;have mb2:=zVZ (MB.out w2 h2);have st2:=zVZ (S4.out w2 h2);have d0:=zAA (cs:=#[.int .i64 (fk m q i t k).1,.int .i64 (fk m q i t k).2]) (MB.out w2 h2).2.2 (k:=0) (by simp);have d1:=zAA (cs:=#[.int .i64 (fk m q i t k).1,.int .i64 (fk m q i t k).2]) (MB.out w2 h2).2.2 (k:=1) (by simp);have d2:=zAA (cs:=#[.int .i64 x.1,.int .i64 x.2]) (MA.out w2 h2) (k:=0) (by simp);have d3:=zAA (cs:=#[.int .i64 x.1,.int .i64 x.2]) (MA.out w2 h2) (k:=1) (by simp);have d4:=zAA (cs:=#[.func (.yield l) #[] #[]]) (RM.out _ _ (by omega) X5.out.c.yb w2 h2).2.2 (k:=0) (by simp);have d5:=zAA (cs:=#[.int .i64 (i:Int)]) (RM.out _ _ (by omega) X5.out.bi w2 h2).2.2 (k:=0) (by simp);have d6:=zAA (cs:=#[.int .i64 (t:Int)]) (RM.out _ _ (by omega) X5.out.bt w2 h2).2.2 (k:=0) (by simp);clear RM MB MA S4;have hfz:∀j,w2.frozen? ⟨wx.heap.size+1,j,none⟩=false:=fun j=>zAK mb2.out.2.2
      cases k with
      |zero=>
       have e0:fk m q i t 0=(0,0):=by simp[fk]
       have e1:fk m q i t 1=x:=by
        unfold fk;rw[if_neg (by decide),List.getD_eq_getElem?_getD,hx]
        rfl
       rw[e0]at d0 d1;have f0:=hfz 0;have f1:=hfz 1
       have EN:=zVZ (show∀w3,w3=(w2.setCell ⟨wx.heap.size+1,0,none⟩ (.int .i64 x.1)).setCell ⟨wx.heap.size+1,1,none⟩ (.int .i64 x.2)->∃S',Ext S' (fun x=>S3 x\/x=wx.heap.size+1) w1/\Fr (fun y=>(S3 y\/y=wx.heap.size+1)\/w1.heap.size<=y) w2 w3/\Inn S' w3/\inI J S (oCl wD b1) W m q i t (wx.heap.size+1) 1 S' w3 from by
        rintro w3 rfl;have hf3:Fr (fun y=>y=wx.heap.size+1) w2 ((w2.setCell ⟨wx.heap.size+1,0,none⟩ (.int .i64 x.1)).setCell ⟨wx.heap.size+1,1,none⟩ (.int .i64 x.2)):=((Fr.refl (fun y=>y=wx.heap.size+1) w2).setCell ⟨wx.heap.size+1,0,none⟩ rfl _).setCell ⟨wx.heap.size+1,1,none⟩ rfl _;refine⟨_,.refl _ _,hf3.mono fun y e=> .inl (.inr e),?_,S3,rfl,st2.out.own hJ hf3 (by rintro y rfl;exact⟨mb2.out.1,mb2.out.2.1⟩),mb2.out.1,mb2.out.2.1,?_⟩
        ·rintro y (h|rfl)
         ·exact Nat.lt_of_lt_of_le (st2.out.inn y h) hf3.size
         ·exact Nat.lt_of_lt_of_le mb2.out.lt hf3.size
        ·rw[e1]
         exact zAP (zAP mb2.out.2.2 _) _)
       clear hfz
       gi_wp2
       exact EN.out _ rfl
      |succ j=>
       obtain⟨a0,ha0⟩:∃a0,(actL m.G q i t)[0]?=some a0:=⟨_,List.getElem?_eq_getElem (by omega)⟩
       have e0:∀j,fk m q i t (j+1)=a0:=fun j=>by
        unfold fk;rw[if_neg (by omega),List.getD_eq_getElem?_getD,ha0]
        rfl
       rw[e0]at d0 d1
       have hne:¬(a0.1=0):=by
        have:=zOh ha0;omega
       obtain⟨fn,tm,asg,bd,hy,hR⟩:=YD.out _ _ _ _ (zJQ hi' hlt2 ha0 hx) st2.out
       have EN:=zVZ (show∀S4 w3,Ext S4 S3 w2->Fr S3 w2 w3->Inn S4 w3->∃S',Ext S' (fun x=>S3 x\/x=wx.heap.size+1) w1/\Fr (fun y=>(S3 y\/y=wx.heap.size+1)\/w1.heap.size<=y) w2 w3/\Inn S' w3/\S'=(fun x=>S4 x\/x=wx.heap.size+1)from by
        intro S4 w3 he4 hf4 hi4;refine⟨_,?_,hf4.mono fun y e=> .inl (.inl e),?_,rfl⟩
        ·rintro y (h|h)
         ·refine(he4 y h).imp .inl fun h=>?_
          simp only[hs2]at h;omega
         ·exact .inl (.inr h)
        ·rintro y (h|rfl)
         ·exact hi4 y h
         ·exact Nat.lt_of_lt_of_le mb2.out.lt hf4.size)
       have hmb:Mine W S3 w2 (wx.heap.size+1) (aObj a0):=by
        have:=mb2.out
        rwa [e0]at this
       have MB2:=zVZ hmb;clear hfz hmb mb2;unfold clv at hy
       gi_wp2
       refine(zDc hR).mono ?_;rintro e w3 ⟨S5,hin5,(⟨rfl,he5,hf5,hj⟩|⟨rfl,he5,hf5,hj⟩)⟩
       ·have EX:=zVZ (show∃S',Ext S' (fun x=>S3 x\/x=wx.heap.size+1) w1/\Fr (fun y=>(S3 y\/y=wx.heap.size+1)\/w1.heap.size<=y) w2 w3/\Inn S' w3/\inI J S (oCl wD b1) W m q i t (wx.heap.size+1) (j+1+1) S' w3 from by
         obtain⟨S',g1,g2,g3,rfl⟩:=EN.out S5 w3 he5 hf5 hin5;refine⟨_,g1,g2,g3,S5,rfl,st2.out.then hOW he5 hf5 hin5 ?_,?_⟩
         ·exact hj
         ·rw[e0]
          exact MB2.out.then he5 hf5)
        clear hy hR he5 hf5 hin5 hj
        gi_wp2
        exact EX.out
       ·have EX:=zVZ (show∃S',Ext S' (Or2 (fun x=>S3 x\/x=wx.heap.size+1) X) w1/\Fr (fun y=>Or2 (fun x=>S3 x\/x=wx.heap.size+1) X y\/w1.heap.size<=y) w2 w3/\Inn S' w3/\inX Jx S X W (zA6 m.G q).length (wx.heap.size+1) .ret (j+1+1) S' w3 from by
         refine⟨fun x=>S5 x\/x=wx.heap.size+1,?_,hf5.mono fun y h=>h.elim (fun h=> .inl (.inl (.inl h))) fun h=> .inl (.inr h),?_,rfl,S5,_,rfl,(List.getElem?_eq_some_iff.1 (zJQ hi' hlt2 ha0 hx)).1,st2.out.stop he5 hf5 hin5 hj⟩
         ·rintro y (h|h)
          ·refine(he5 y h).elim (fun h=>h.elim (fun h=> .inl (.inl (.inl h))) fun h=> .inl (.inr h)) fun h=> .inr ?_
           simp only[hs2]at h;omega
          ·exact .inl (.inl (.inr h))
         ·rintro y (h|rfl)
          ·exact hin5 y h
          ·exact Nat.lt_of_lt_of_le MB2.out.lt hf5.size)
        clear hy hR he5 hf5 hin5 hj
        gi_wp2
        exact EX.out
     case done=>
      rintro S' w6 ⟨S3,rfl,st,mb⟩ hin he hf hD hDS
      have DX:=zVZ (show CSt J S (oCl wD b1) W l (cT m.G q i (t+1)) S3 (Rg.mark w5.heap.size::ds2) w6/\Mine W S3 w6 wr.heap.size (.cells #[.int .i64 (i:Int)] 3 (0,0))from
       ⟨⟨by rw[zRu];exact st,X5.out.c.marks.ranged X5.out.bf.2.2 rfl he hf (Nat.le_refl _) hD (fun h=>hDS (.inl h)) X5.out.le5,X5.out.c.yb.ranged (by omega) he hf⟩,X5.out.bi.ranged (by omega) he hf⟩)
      clear st mb hin he hf hD hDS hqp
      gi_wp2
      refine⟨?_,?_⟩
      case refine_1=>
       (repeat apply Exists.intro)
       refine⟨?_,rfl⟩;exact⟨t+1,S3,by simp,by omega,DX.out.1,DX.out.2⟩
      case refine_2=>
       simp[intOf];omega
     case stop=>
      rintro c k S' w6 hk ⟨rfl,S3,k',rfl,hk',st⟩ hin he hf hD hDS;obtain⟨L,hL0,hnd,hL⟩:=X5.out.c.marks.rangedX (X:=X) (fun x hx=>hiX x hx) X5.out.bf.2.2 rfl he hf (Nat.le_refl _) hD (fun h=>hDS (.inl h)) X5.out.le5
      have EN:=zVZ (show∀w',Fr (fun x=>x∈L) w6 w'->∀v,(∃v',Ending.returned v=.returned v')/\∃S',Inn S' w'/\((Ext S' S W/\Fr S W w'/\J (zA6 m.G q).length S' w')\/(Ext S' (Or2 S X) W/\Fr (Or2 S X) W w'/\∃k,k<=(zA6 m.G q).length/\Jx k S' w'))from fun w' hf v=>by
       have s2:=st.own hJx hf fun x hx=>⟨(hL x hx).1,(hL x hx).2.1⟩
       exact⟨⟨v,rfl⟩,S3,s2.inn,.inr ⟨s2.ext,s2.fr,k',hk',s2.j⟩⟩)
      have LM:=zVZ (show∀(fn:Func) (tmps:Array Value) (R:Ending->World->Prop),(∀w',Fr (fun x=>x∈L) w6 w'->∃v,(results fn tmps).run Tryz.prog w'=.ok v w'/\R (.returned v) w')->LeavesInM Fence.wide 9 Tryz.prog fn tmps R (Rg.mark w5.heap.size::ds2) .returning w6 from fun fn tmps R hR=>by
       rw[hL0]
       exact zBH L w6 hnd (fun D h=>(hL D h).2.2) hR)
      clear st hin he hf hD hDS hL hnd hL0 hqp
      gi_wp2
      refine LM.out _ _ _ ?_;exact fun w' hf=>⟨_,results_none rfl _ _ _,EN.out w' hf _⟩
    ·obtain rfl:t=m.G.terms.length+1:=by omega
     clear c0 c1 c2 c3 c4 c5 d0 hb0 c6 c7 PA C4 BI4 BT4 BF4
     gi_wp2
     refine⟨?_,?_⟩
     case refine_1=>
      (repeat apply Exists.intro)
      refine⟨?_,rfl⟩;exact⟨i+1,S2,by simp,by omega,by rw[←zRt];exact C2.out⟩
     case refine_2=>
      simp[intOf];omega
  ·obtain rfl:i=m.nS:=by omega
   clear c0 c1 c2 c3 c4 c5 d0 hb0 BI;obtain⟨L,rfl,hnd,hL⟩:=ST.out.marks;have EN:=zVZ (fun w' (hf:Fr (fun x=>x∈L) wr w')=>DN.out _ w' (ST.out.st.own hJ hf fun x hx=>⟨(hL x hx).1,(hL x hx).2.1⟩));have LM:=zVZ (show∀(fn:Func) (tmps:Array Value) (R:Ending->World->Prop),(∀w',Fr (fun x=>x∈L) wr w'->∃v,(results fn tmps).run Tryz.prog w'=.ok v w'/\R (.returned v) w')->LeavesInM Fence.wide 9 Tryz.prog fn tmps R (L.map Rg.mark) .returning wr from fun fn tmps R hR=>zBH L wr hnd (fun D h=>(hL D h).2.2) hR);clear hL hnd
   gi_wp2
   refine LM.out _ _ _ ?_;exact fun w' hf=>⟨_,results_none rfl _ _ _,EN.out w' hf _⟩
