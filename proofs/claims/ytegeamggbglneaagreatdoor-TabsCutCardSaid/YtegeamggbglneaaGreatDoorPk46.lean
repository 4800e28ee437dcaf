/- Proof. -/
import Derived.Test.YtegeamggbglneaaGreatDoorPk45
set_option maxHeartbeats 4000000
set_option maxRecDepth 100000
set_option linter.unusedVariables false
namespace Go.Proofs.YtegeamggbglneaaGreatDoor
namespace Ac
open Go.RowKit Go.Maps
open Au
open Rg
open Go.Proofs.YtegeamggbglneaaGreatDoor.Sep
attribute [local go_sem] Oper.semAt_some
def JD(x:Ah):Value:=.agg #[.int .i64 x.1,.int .i64 x.2.1,.int .i64 x.2.2.1.1,.int .i64 x.2.2.1.2,.int .i64 x.2.2.2.1,.int .i64 x.2.2.2.2]
noncomputable def tM(m:Am)(q:Whole):Nat->Array Value:=fun k=>#[JD ((jO m.G q).getD k (0,0,(0,0),(0,0)))]
def lJ(wD:World)(b1:Nat):Nat->Prop:=fun k=>k<wD.heap.size\/k=b1
def Mk(l:Nat):Obj:=.cells #[.func (.yield l) #[] #[]] 147 (0,0)
structure pL (J:Nat->(Nat->Prop)->World->Prop) (S O:Nat->Prop) (W:World) (l k:Nat) (S1:Nat->Prop) (ds:List Deferred) (wr:World):Prop where
 st:St J S O W k S1 wr
 marks:Marks W S1 wr ds
 yb:Mine W S1 wr W.heap.size (Mk l)
section
variable {J:Nat->(Nat->Prop)->World->Prop} {S O S1:Nat->Prop} {W wr w':World} {l k:Nat} {ds:List Deferred}
theorem pL.alloc(h:pL J S O W l k S1 ds wr)(hJ:Holds W.heap.size J)(o):pL J S O W l k S1 ds (wr.alloc o):=⟨h.st.alloc hJ o,h.marks.alloc o,h.yb.alloc o⟩
theorem pL.went(h:pL J S O W l k S1 ds wr)(hJ:Holds W.heap.size J)(hb:Below wr.heap.size wr w'):pL J S O W l k S1 ds w':=
 ⟨h.st.went hJ hb,h.marks.own (T:=fun _=>False) (.of_below hb) fun _ h=>h.elim,h.yb.went hb⟩
end
theorem ft{w:World}{b k}{cs}{T}(h:w.heap[b]?=some (.cells cs T (0,0)))(v):(w.setCell ⟨b,k,none⟩ v).heap[b]?=some (.cells (cs.setIfInBounds k v) T (0,0)):=by
 rw[setCell_eq_setRow w b k cs T (0,0) v h];exact setRow_heap w b cs _ T (0,0) h
theorem fu{w:World}{b k}{cs}{T}(h:w.heap[b]?=some (.cells cs T (0,0))):w.frozen? ⟨b,k,none⟩=false:=by
 simp[World.frozen?,h]
noncomputable def fk(m:Am)(q:Whole)(i t k:Nat):mR:=if k=0 then(0,0)else(bh m.G q i t).getD 0 (0,0)
def tC(x:mR):Obj:=.cells #[.int .i64 x.1,.int .i64 x.2] 57 (0,0)
def Gl(J:Nat->(Nat->Prop)->World->Prop)(S O:Nat->Prop)(W:World)(m:Am)(q:Whole)(i t bf:Nat)(k:Nat)(S':Nat->Prop)(w:World):Prop:=
 ∃S3,S'=(fun x=>S3 x\/x=bf)/\St J S O W (cT m.G q i t+(k-1)) S3 w/\Mine W S3 w bf (tC (fk m q i t k))
def Ld(Jx:Nat->(Nat->Prop)->World->Prop)(S X:Nat->Prop)(W:World)(N bf:Nat)(c:Code)(k:Nat)(S':Nat->Prop)(w:World):Prop:=
 c=.ret/\∃S3 k',S'=(fun x=>S3 x\/x=bf)/\k'<=N/\Fin Jx S X W k' S3 w
theorem zNT{J}{S O}{W w5:World}(hJ:Holds W.heap.size J)(hs:W.heap.size<=w5.heap.size)(m)(q)(i t bf):Holds w5.heap.size (Gl J S O W m q i t bf):=by
 rintro k S' T A A' ⟨S3,rfl,st,mb⟩ hi hf hT;exact⟨S3,rfl,st.own hJ hf fun x hx=>⟨Nat.le_trans hs (hT x hx).1,fun h=>(hT x hx).2 (.inl h)⟩,mb.own hf fun h=>(hT _ h).2 (.inr rfl)⟩
theorem zNW{Jx}{S X}{W w5:World}(Ba:Holds W.heap.size Jx)(hs:W.heap.size<=w5.heap.size)(N bf)(c):Holds w5.heap.size (Ld Jx S X W N bf c):=by
 rintro k S' T A A' ⟨rfl,S3,k',rfl,hk,st⟩ hi hf hT;exact⟨rfl,S3,k',rfl,hk,st.own Ba hf fun x hx=>⟨Nat.le_trans hs (hT x hx).1,fun h=>(hT x hx).2 (.inl h)⟩⟩
structure PW (J:Nat->(Nat->Prop)->World->Prop) (S:Nat->Prop) (W:World) (m:Am) (wD:World) (b1 l k i t br bx:Nat) (S2:Nat->Prop) (ds:List Deferred) (w5:World):Prop where
 c:pL J S (lJ wD b1) W l k S2 ds w5
 bi:Mine W S2 w5 br (.cells #[.int .i64 (i:Int)] 3 (0,0))
 bt:Mine W S2 w5 bx (.cells #[.int .i64 (t:Int)] 3 (0,0))
 bf:Mine W S2 w5 (bx+1) (tC (0,0))
 p1:w5.heap[bx+1+1]?=some (.cells (bV m) 104 (0,0))
 p2:w5.heap[bx+1+1+1]?=some (.cells #[.int .i64 (i:Int)] 3 (0,0))
 p3:w5.heap[bx+1+1+1+1]?=some (.cells #[.int .i64 (t:Int)] 3 (0,0))
 from_:W.heap.size<=bx
 zA:W.heap.size<=w5.heap.size
 off:Off (fun x=>S2 x\/x=bx+1) (lv wD (bx+1+1) (bx+1+1+1) (bx+1+1+1+1))
 Le:di (lv wD (bx+1+1) (bx+1+1+1) (bx+1+1+1+1)) w5
 bK:di (fun x=>S2 x\/x=bx+1) w5
theorem zLu{J}{S S2}{W wx w5 wD}{m}{b1 l k i t br:Nat}{ds}(hJ:Holds W.heap.size J)(hD:wD.heap.size<=W.heap.size)(hin:di S2 wx)
  (h4:pL J S (lJ wD b1) W l k S2 ds ((wx.alloc (.cells #[.int .i64 (t:Int)] 3)).alloc (.cells #[.int .i64 0,.int .i64 0] 57)))
  (FP:Mine W S2 ((wx.alloc (.cells #[.int .i64 (t:Int)] 3)).alloc (.cells #[.int .i64 0,.int .i64 0] 57)) br (.cells #[.int .i64 (i:Int)] 3 (0,0)))
  (FQ:Mine W S2 ((wx.alloc (.cells #[.int .i64 (t:Int)] 3)).alloc (.cells #[.int .i64 0,.int .i64 0] 57)) wx.heap.size (.cells #[.int .i64 (t:Int)] 3 (0,0)))
  (xB:Mine W S2 ((wx.alloc (.cells #[.int .i64 (t:Int)] 3)).alloc (.cells #[.int .i64 0,.int .i64 0] 57)) (wx.heap.size+1) (.cells #[.int .i64 0,.int .i64 0] 57 (0,0)))
  (hw:w5=uQ m i t ((wx.alloc (.cells #[.int .i64 (t:Int)] 3)).alloc (.cells #[.int .i64 0,.int .i64 0] 57))):
  PW J S W m wD b1 l k i t br wx.heap.size S2 ds w5:=by
 subst hw;have hx:W.heap.size<=wx.heap.size:=FQ.1;generalize hw4:(wx.alloc (.cells #[.int .i64 (t:Int)] 3)).alloc (.cells #[.int .i64 0,.int .i64 0] 57)=w4 at*;have hs4:w4.heap.size=wx.heap.size+1+1:=by rw[←hw4];simp
 have hb:Below w4.heap.size w4 (uQ m i t w4):=(((Below.refl _ w4).alloc (Nat.le_refl _) _).alloc (by simp) _).alloc (by simp;omega) _;have e:(uQ m i t w4).heap.size=wx.heap.size+1+1+1+1+1:=by simp[uQ,hs4]
 have hk:∀{w:World} {b:Nat} {o o':Obj},w.heap[b]?=some o->(w.alloc o').heap[b]?=some o:=fun {w b o o'} h=>(Below.heap_alloc w o' b (Array.getElem?_eq_some_iff.1 h).1).trans h
 have q1:(w4.alloc (.cells (bV m) 104)).heap[wx.heap.size+1+1]?=some (.cells (bV m) 104 (0,0)):=by rw[←hs4];exact World.alloc_heap_new _ _
 have q2:((w4.alloc (.cells (bV m) 104)).alloc (.cells #[.int .i64 (i:Int)] 3)).heap[wx.heap.size+1+1+1]?=some (.cells #[.int .i64 (i:Int)] 3 (0,0)):=by
  have:=World.alloc_heap_new (w4.alloc (.cells (bV m) 104)) (.cells #[.int .i64 (i:Int)] 3)
  rwa [World.size_alloc,hs4]at this
 have q3:(uQ m i t w4).heap[wx.heap.size+1+1+1+1]?=some (.cells #[.int .i64 (t:Int)] 3 (0,0)):=by
  have:=World.alloc_heap_new ((w4.alloc (.cells (bV m) 104)).alloc (.cells #[.int .i64 (i:Int)] 3)) (.cells #[.int .i64 (t:Int)] 3)
  rwa [World.size_alloc,World.size_alloc,hs4]at this
 refine⟨h4.went hJ hb,FP.went hb,FQ.went hb,xB.went hb,hk (hk q1),hk q2,q3,hx,by omega,?_,?_,?_⟩
 ·rintro x hx' ho;have h1:x<wx.heap.size+1+1:=hx'.elim (fun h=>by have:=hin x h;omega) fun h=>by omega
  rcases ho with h|h|h|h
  ·rcases hx' with h2|h2
   ·exact h4.st.off x h2 (.inl h)
   ·omega
  all_goals omega
 ·rintro x (h|h|h|h)
  all_goals omega
 ·rintro x (h|h)
  ·have:=hin x h;omega
  ·omega
theorem zHy(m:Am)(q:Whole)(wD w0:World)(D:Dat m q wD)(hb:Below wD.heap.size wD w0)(b1:Nat)
  (h1:w0.heap[b1]?=some (.cells (bV m) 104 (0,0))):
  Rg.Yields Tryz.prog 96 #[.pointer (some ⟨b1,0,none⟩)] (tM m q) (jO m.G q).length (lJ wD b1) w0:=by
 intro l J Jx S X W hF hO hin Kk hJ Ba hY h0
 have qy:di (lJ wD b1) w0:=by
  rintro k (h|rfl)
  ·have:=hb.size;omega
  ·exact(Array.getElem?_eq_some_iff.1 h1).1
 have ve:=qy.le hF.size;have g1:W.heap[b1]?=some (.cells (bV m) 104 (0,0)):=(hF.block b1 (qy b1 (.inr rfl)) fun hs=>hO b1 hs (.inr rfl)).trans h1;have hbW:Below wD.heap.size wD W:=⟨hF.os.trans hb.os,hF.tape.trans hb.tape,hF.output.trans hb.output,Nat.le_trans hb.size hF.size,fun x hx=>(hF.block x (by have:=hb.size;omega) fun hs=>hO x hs (.inl hx)).trans (hb.block x hx)⟩;clear h1;have zo:m.nS=q.1.length:=by rw[D.nS,rD D.done.all]
 have HN:=af zo;have hDW:wD.heap.size<=W.heap.size:=Nat.le_trans hb.size hF.size;have hsm:m.nS<=2000:=by have:=D.len;omega
 have hT:m.G.terms.length<=100000:=D.few.2
 have RD:=af (show∀(J':Nat->(Nat->Prop)->World->Prop) (k:Nat) (S1:Nat->Prop) (W1:World),St J' S (lJ wD b1) W k S1 W1->Dat m q W1/\Below wD.heap.size wD W1/\OX m b1 W1 from
  fun J' k S1 W1 st=>by
   have bW:=st.below hO hbW (fun x hx=> .inl hx) (Nat.le_trans hb.size hF.size)
   exact⟨D.went bW,bW,jh ((st.same ve hO (.inr rfl)).trans g1)⟩)
 have YD:=af (show∀(k:Nat) (x:Ah) (S1:Nat->Prop) (W1:World),(jO m.G q)[k]?=some x->St J S (lJ wD b1) W k S1 W1->YieldAt Fence.wide 0 Tryz.prog l #[JD x] W1 (Said X J Jx k S1 W1)from
  fun k x S1 W1 hx st=>by
   have h:=hY k S1 W1 (List.getElem?_eq_some_iff.1 hx).1 st.j st.bK;unfold tM at h;rw[List.getD_eq_getElem?_getD,hx]at h
   exact h)
 have DN:=af (show∀(S1:Nat->Prop) (W1:World),St J S (lJ wD b1) W (cI m.G q m.nS) S1 W1->∀v,(∃v',Ending.returned v=.returned v')/\∃S',di S' W1/\((Ext S' S W/\Fr S W W1/\J (jO m.G q).length S' W1)\/(Ext S' (dK S X) W/\Fr (dK S X) W W1/\∃k,k<=(jO m.G q).length/\Jx k S' W1))from
  fun S1 W1 st v=>⟨⟨v,rfl⟩,S1,st.bK,.inl ⟨st.ext,st.fr,by have:=st.j;rwa [zo,zSy]at this⟩⟩)
 have S0:=af (show pL J S (lJ wD b1) W l 0 S [] (W.alloc (.cells #[.func (.yield l) #[] #[]] 147))from
  ⟨(St.start (O:=lJ wD b1) h0 hin hO).alloc hJ _,.nil,(St.start (O:=lJ wD b1) h0 hin hO).new⟩)
 obtain⟨d0,hb0,c0,c1,c2,c3,c4,c5⟩:=RD.out _ _ _ _ S0.out.st;have DD:=af (⟨D,hb⟩:Dat m q wD/\_);clear hY h0 hin g1 qy D hb hbW hF zo;refine VF (n:=9) (o:=none) ?_;refine callsIn_of_wp_marks Tryz.func96 rfl trivial ?_ rfl;simp only[Tryz.ntmps96,List.size_toArray,List.length_cons,List.length_nil,Nat.reduceAdd,Nat.reduceSub,Array.replicate_succ,Array.replicate_zero,List.push_toArray,List.append_toArray,List.nil_append,List.cons_append]
 gi_wp2
 refine wpIn_loop (fun a' wx=>∃(u3 u4 u5 u6 Mj SJ SQ SV S8 S9 u16 Dx uv vU vV vY vZ u23 u24 wh u26 wj u28 wm Dy Dz u32 u33 DC DG DI DJ DK DR:Value) (ds:List Deferred),(∃(i:Nat) (S1:Nat->Prop),Mj=.int .i64 (i:Int)/\i<=m.nS/\pL J S (lJ wD b1) W l (cI m.G q i) S1 ds wx)/\a'={tmps:=List.toArray (.func (.yield l) #[] #[]::.pointer (some ⟨b1,0,none⟩)::.pointer (some ⟨W.heap.size,0,none⟩)::u3::u4::u5::u6::.pointer (some ⟨b1,4,none⟩)::.slice m.aS m.nS m.cS::.int .i64 (m.nS:Int)::Mj::SJ::SQ::SV::S8::S9::u16::Dx::uv::vU::vV::vY::vZ::u23::u24::wh::u26::wj::u28::wm::Dy::Dz::u32::u33::DC::DG::DI::DJ::DK::DR::[]),defers:=ds}) (fun a' _=>m.nS-(intOf (a'.tmps.getD 10 undef)).toNat) ?_ ?_
 case refine_1=>
  (repeat apply Exists.intro)
  refine⟨?_,rfl⟩;exact⟨0,_,rfl,Nat.zero_le _,S0.out⟩
 case refine_2=>
  clear c0 c1 c2 c3 c4 c5 S0 d0 hb0;rintro a' wr ⟨u3,u4,u5,u6,Mj,SJ,SQ,SV,S8,S9,u16,Dx,uv,vU,vV,vY,vZ,u23,u24,wh,u26,wj,u28,wm,Dy,Dz,u32,u33,DC,DG,DI,DJ,DK,DR,ds,⟨i,S1,rfl,hi,cst⟩,rfl⟩;have ST:=af cst;clear cst;obtain⟨d0,hb0,c0,c1,c2,c3,c4,c5⟩:=RD.out _ _ _ _ (ST.out.st.alloc hJ (.cells #[.int .i64 (i:Int)] 3));have BI:=af (ST.out.st.new (o:=.cells #[.int .i64 (i:Int)] 3))
  by_cases hlt:i<m.nS
  ·gi_wp2
   refine wpIn_loop (fun a' wx=>∃(u4 u5 u6 uv vU vV vY vZ u23 u24 wh u26 wj u28 wm Dy Dz u32 u33 DC DG DI DJ DK DR:Value) (ds:List Deferred),(∃(t:Nat) (S2:Nat->Prop),uv=.int .i64 (t:Int)/\t<=m.G.terms.length+1/\pL J S (lJ wD b1) W l (cT m.G q i t) S2 ds wx/\Mine W S2 wx wr.heap.size (.cells #[.int .i64 (i:Int)] 3 (0,0)))/\a'={tmps:=List.toArray (.func (.yield l) #[] #[]::.pointer (some ⟨b1,0,none⟩)::.pointer (some ⟨W.heap.size,0,none⟩)::.pointer (some ⟨wr.heap.size,0,none⟩)::u4::u5::u6::.pointer (some ⟨b1,4,none⟩)::.slice m.aS m.nS m.cS::.int .i64 (m.nS:Int)::.int .i64 (i:Int)::.bool true::.int .i64 (i:Int)::.pointer (some ⟨b1,0,none⟩)::.pointer (some ⟨b1,0,none⟩)::.slice m.h.a1 m.G.terms.length m.h.c1::.int .i64 (m.G.terms.length:Int)::.int .i64 ((m.G.terms.length:Int)+1)::uv::vU::vV::vY::vZ::u23::u24::wh::u26::wj::u28::wm::Dy::Dz::u32::u33::DC::DG::DI::DJ::DK::DR::[]),defers:=ds}) (fun a' _=>m.G.terms.length+1-(intOf (a'.tmps.getD 18 undef)).toNat) ?_ ?_
   case refine_1=>
    (repeat apply Exists.intro)
    refine⟨?_,rfl⟩;exact⟨0,_,rfl,Nat.zero_le _,ST.out.alloc hJ _,BI.out⟩
   case refine_2=>
    clear c0 c1 c2 c3 c4 c5 d0 hb0 BI;rintro a' wx ⟨u4,u5,u6,uv,vU,vV,vY,vZ,u23,u24,wh,u26,wj,u28,wm,Dy,Dz,u32,u33,DC,DG,DI,DJ,DK,DR,JE,⟨t,S2,rfl,ht,cst,bi⟩,rfl⟩;have C2:=af cst;have BI:=af bi;clear cst bi;have C4:=af ((C2.out.alloc hJ (.cells #[.int .i64 (t:Int)] 3)).alloc hJ (.cells #[.int .i64 0,.int .i64 0] 57));obtain⟨d0,hb0,c0,c1,c2,c3,c4,c5⟩:=RD.out _ _ _ _ C4.out.st;have Fg:=af ((BI.out.alloc (.cells #[.int .i64 (t:Int)] 3)).alloc (.cells #[.int .i64 0,.int .i64 0] 57));have Fh:=af ((C2.out.st.new (o:=.cells #[.int .i64 (t:Int)] 3)).alloc (.cells #[.int .i64 0,.int .i64 0] 57))
    have IU:=af (show Mine W S2 ((wx.alloc (.cells #[.int .i64 (t:Int)] 3)).alloc (.cells #[.int .i64 0,.int .i64 0] 57)) (wx.heap.size+1) (.cells #[.int .i64 0,.int .i64 0] 57 (0,0))from by
     have:=(C2.out.st.alloc hJ (.cells #[.int .i64 (t:Int)] 3)).new (o:=.cells #[.int .i64 0,.int .i64 0] 57)
     rwa [World.size_alloc]at this)
    have c6:=aF (cs:=#[.int .i64 (i:Int)]) Fg.out.2.2 (k:=0) (by simp);have c7:=aF (cs:=#[.int .i64 (t:Int)]) Fh.out.2.2 (k:=0) (by simp);have PA:=af (show∀w1,Calls Tryz.prog 97 #[.agg #[.slice m.h.a1 m.G.terms.length m.h.c1,.slice m.h.a2 m.G.ah.length m.h.c2,.slice m.h.a3 m.G.rules.length m.h.c3,.int .i64 m.G.start,.slice m.aS m.nS m.cS,.slice m.aL m.nL m.cL],.int .i64 (i:Int),.int .i64 (t:Int)] w1 _ from fun w1=>WL m i t w1)
    by_cases cx:t<m.G.terms.length+1
    ·gi_wp2_with (refine⟨trivial,?_⟩;gi_at_call 97;refine(uy (PA.out _)).mono ?_;rintro e w5 ⟨rfl,vE⟩;have Ar:=af vE;clear vE)
     clear c0 c1 c2 c3 c4 c5 c6 c7 d0 hb0 PA;have X5:=af (zLu (l:=l) hJ hDW C2.out.st.bK C4.out Fg.out Fh.out IU.out Ar.out);have hbr:wr.heap.size<wx.heap.size:=BI.out.lt;clear Ar C4 Fg Fh IU BI C2;have hwx:W.heap.size<=wx.heap.size:=X5.out.from_;have hi':i<q.1.length:=by rw[←HN.out];exact hlt
     have KH:=Ub m q wD w5 DD.out.1 (RD.out _ _ _ _ X5.out.c.st).2.1 i t _ _ _ hi' X5.out.p1 X5.out.p2 X5.out.p3
     refine MV (n:=9) (gf:=120) (lb:=#[.pointer (some ⟨wx.heap.size+1+1,0,none⟩),.pointer (some ⟨wx.heap.size+1+1+1,0,none⟩),.pointer (some ⟨wx.heap.size+1+1+1+1,0,none⟩)]) rfl (enters_of Tryz.func120 (by kernel_rfl) rfl)
      (encs:=bM m q i t) KH (fun _=>rfl) (Gl J S (lJ wD b1) W m q i t (wx.heap.size+1)) (Ld Jx S X W (jO m.G q).length (wx.heap.size+1)) (zNT hJ X5.out.zA m q i t _) (zNW Ba X5.out.zA _ _)
      (fun x=>S2 x\/x=wx.heap.size+1) X X5.out.off X5.out.Le X5.out.bK (Kk.le X5.out.zA) ⟨S2,rfl,by simpa using X5.out.c.st,by simpa[fk]using X5.out.bf⟩ ?round ?done ?stop
     case round=>
      rintro l' k S' w1 hk Ga iJ hnl ⟨S3,rfl,st,mb⟩ hin he hf;obtain⟨x,hx⟩:∃x,(bh m.G q i t)[k]?=some x:=⟨_,List.getElem?_eq_getElem hk⟩;have hx':(bh m.G q i t).getD k (0,0)=x:=by rw[List.getD_eq_getElem?_getD,hx];rfl
      have Ku:¬S3 l':=fun h=>hnl (.inl h)
      have RM:=af (show∀(b:Nat) (o:Obj),b≠wx.heap.size+1->Mine W S2 w5 b o->∀w2,Fr (fun x=>x=l') (w1.alloc (.cells #[.int .i64 x.1,.int .i64 x.2] 57)) w2->Mine W S3 w2 b o from
       fun b o hb hm w2 h2=>(((hm.ranged hb he hf).alloc _).own h2 (by have:=hm.lt;omega)))
      have MB:=af (show∀w2,Fr (fun x=>x=l') (w1.alloc (.cells #[.int .i64 x.1,.int .i64 x.2] 57)) w2->Mine W S3 w2 (wx.heap.size+1) (tC (fk m q i t k))from fun w2 h2=>(mb.alloc _).own h2 (fun h=>hnl (.inr h.symm)));have MA:=af (show∀w2,Fr (fun x=>x=l') (w1.alloc (.cells #[.int .i64 x.1,.int .i64 x.2] 57)) w2->w2.heap[w1.heap.size]?=some (.cells #[.int .i64 x.1,.int .i64 x.2] 57 (0,0))from fun w2 h2=>fI h2 (World.alloc_heap_new _ _) (by omega));have S4:=af (show∀w2,Fr (fun x=>x=l') (w1.alloc (.cells #[.int .i64 x.1,.int .i64 x.2] 57)) w2->St J S (lJ wD b1) W (cT m.G q i t+(k-1)) S3 w2 from fun w2 h2=>(st.alloc hJ _).own hJ h2 (by rintro y rfl;exact⟨Nat.le_trans X5.out.zA Ga,Ku⟩));have bW:wx.heap.size+1<w1.heap.size:=mb.lt;unfold bM AJ;rw[hx'];clear st mb hf hin hx'
      gi_wp2
      refine⟨(Fr.refl _ w1).alloc _,fun w2 h2 hs2=>?_⟩;have r7:=af (MB.out w2 h2);have st2:=af (S4.out w2 h2);have d0:=aF (cs:=#[.int .i64 (fk m q i t k).1,.int .i64 (fk m q i t k).2]) (MB.out w2 h2).2.2 (k:=0) (by simp);have d1:=aF (cs:=#[.int .i64 (fk m q i t k).1,.int .i64 (fk m q i t k).2]) (MB.out w2 h2).2.2 (k:=1) (by simp);have d2:=aF (cs:=#[.int .i64 x.1,.int .i64 x.2]) (MA.out w2 h2) (k:=0) (by simp);have d3:=aF (cs:=#[.int .i64 x.1,.int .i64 x.2]) (MA.out w2 h2) (k:=1) (by simp);have d4:=aF (cs:=#[.func (.yield l) #[] #[]]) (RM.out _ _ (by omega) X5.out.c.yb w2 h2).2.2 (k:=0) (by simp);have d5:=aF (cs:=#[.int .i64 (i:Int)]) (RM.out _ _ (by omega) X5.out.bi w2 h2).2.2 (k:=0) (by simp);have d6:=aF (cs:=#[.int .i64 (t:Int)]) (RM.out _ _ (by omega) X5.out.bt w2 h2).2.2 (k:=0) (by simp);clear RM MB MA S4;have hfz:∀j,w2.frozen? ⟨wx.heap.size+1,j,none⟩=false:=fun j=>fu r7.out.2.2
      cases k with
      |zero=>
       have e0:fk m q i t 0=(0,0):=by simp[fk]
       have e1:fk m q i t 1=x:=by
        unfold fk;rw[if_neg (by decide),List.getD_eq_getElem?_getD,hx]
        rfl
       rw[e0]at d0 d1;have f0:=hfz 0;have f1:=hfz 1
       have EN:=af (show∀w3,w3=(w2.setCell ⟨wx.heap.size+1,0,none⟩ (.int .i64 x.1)).setCell ⟨wx.heap.size+1,1,none⟩ (.int .i64 x.2)->∃S',Ext S' (fun x=>S3 x\/x=wx.heap.size+1) w1/\Fr (fun y=>(S3 y\/y=wx.heap.size+1)\/w1.heap.size<=y) w2 w3/\di S' w3/\Gl J S (lJ wD b1) W m q i t (wx.heap.size+1) 1 S' w3 from by
        rintro w3 rfl;have hf3:Fr (fun y=>y=wx.heap.size+1) w2 ((w2.setCell ⟨wx.heap.size+1,0,none⟩ (.int .i64 x.1)).setCell ⟨wx.heap.size+1,1,none⟩ (.int .i64 x.2)):=((Fr.refl (fun y=>y=wx.heap.size+1) w2).setCell ⟨wx.heap.size+1,0,none⟩ rfl _).setCell ⟨wx.heap.size+1,1,none⟩ rfl _;refine⟨_,.refl _ _,hf3.mono fun y e=> .inl (.inr e),?_,S3,rfl,st2.out.own hJ hf3 (by rintro y rfl;exact⟨r7.out.1,r7.out.2.1⟩),r7.out.1,r7.out.2.1,?_⟩
        ·rintro y (h|rfl)
         ·exact Nat.lt_of_lt_of_le (st2.out.bK y h) hf3.size
         ·exact Nat.lt_of_lt_of_le r7.out.lt hf3.size
        ·rw[e1]
         exact ft (ft r7.out.2.2 _) _)
       clear hfz
       gi_wp2
       exact EN.out _ rfl
      |succ j=>
       obtain⟨a0,ha0⟩:∃a0,(bh m.G q i t)[0]?=some a0:=⟨_,List.getElem?_eq_getElem (by omega)⟩
       have e0:∀j,fk m q i t (j+1)=a0:=fun j=>by
        unfold fk;rw[if_neg (by omega),List.getD_eq_getElem?_getD,ha0]
        rfl
       rw[e0]at d0 d1
       have hne:¬(a0.1=0):=by
        have:=zPd ha0;omega
       obtain⟨fn,tm,Qo,bd,hy,hR⟩:=YD.out _ _ _ _ (VH hi' cx ha0 hx) st2.out
       have EN:=af (show∀S4 w3,Ext S4 S3 w2->Fr S3 w2 w3->di S4 w3->∃S',Ext S' (fun x=>S3 x\/x=wx.heap.size+1) w1/\Fr (fun y=>(S3 y\/y=wx.heap.size+1)\/w1.heap.size<=y) w2 w3/\di S' w3/\S'=(fun x=>S4 x\/x=wx.heap.size+1)from by
        intro S4 w3 FY vq hi4;refine⟨_,?_,vq.mono fun y e=> .inl (.inl e),?_,rfl⟩
        ·rintro y (h|h)
         ·refine(FY y h).imp .inl fun h=>?_
          simp only[hs2]at h;omega
         ·exact .inl (.inr h)
        ·rintro y (h|rfl)
         ·exact hi4 y h
         ·exact Nat.lt_of_lt_of_le r7.out.lt vq.size)
       have hmb:Mine W S3 w2 (wx.heap.size+1) (tC a0):=by
        have:=r7.out
        rwa [e0]at this
       have PX:=af hmb;clear hfz hmb r7;unfold JD at hy
       gi_wp2
       refine(Ha hR).mono ?_;rintro e w3 ⟨S5,oZ,(⟨rfl,oo,ng,hj⟩|⟨rfl,oo,ng,hj⟩)⟩
       ·have EX:=af (show∃S',Ext S' (fun x=>S3 x\/x=wx.heap.size+1) w1/\Fr (fun y=>(S3 y\/y=wx.heap.size+1)\/w1.heap.size<=y) w2 w3/\di S' w3/\Gl J S (lJ wD b1) W m q i t (wx.heap.size+1) (j+1+1) S' w3 from by
         obtain⟨S',g1,g2,g3,rfl⟩:=EN.out S5 w3 oo ng oZ;refine⟨_,g1,g2,g3,S5,rfl,st2.out.then ve oo ng oZ ?_,?_⟩
         ·exact hj
         ·rw[e0]
          exact PX.out.then oo ng)
        clear hy hR oo ng oZ hj
        gi_wp2
        exact EX.out
       ·have EX:=af (show∃S',Ext S' (dK (fun x=>S3 x\/x=wx.heap.size+1) X) w1/\Fr (fun y=>dK (fun x=>S3 x\/x=wx.heap.size+1) X y\/w1.heap.size<=y) w2 w3/\di S' w3/\Ld Jx S X W (jO m.G q).length (wx.heap.size+1) .ret (j+1+1) S' w3 from by
         refine⟨fun x=>S5 x\/x=wx.heap.size+1,?_,ng.mono fun y h=>h.elim (fun h=> .inl (.inl (.inl h))) fun h=> .inl (.inr h),?_,rfl,S5,_,rfl,(List.getElem?_eq_some_iff.1 (VH hi' cx ha0 hx)).1,st2.out.stop oo ng oZ hj⟩
         ·rintro y (h|h)
          ·refine(oo y h).elim (fun h=>h.elim (fun h=> .inl (.inl (.inl h))) fun h=> .inl (.inr h)) fun h=> .inr ?_
           simp only[hs2]at h;omega
          ·exact .inl (.inl (.inr h))
         ·rintro y (h|rfl)
          ·exact oZ y h
          ·exact Nat.lt_of_lt_of_le PX.out.lt ng.size)
        clear hy hR oo ng oZ hj
        gi_wp2
        exact EX.out
     case done=>
      rintro S' w6 ⟨S3,rfl,st,mb⟩ hin he hf hD tN
      have DX:=af (show pL J S (lJ wD b1) W l (cT m.G q i (t+1)) S3 (Rg.mark w5.heap.size::JE) w6/\Mine W S3 w6 wr.heap.size (.cells #[.int .i64 (i:Int)] 3 (0,0))from
       ⟨⟨by rw[zS0];exact st,X5.out.c.marks.ranged X5.out.bf.2.2 rfl he hf (Nat.le_refl _) hD (fun h=>tN (.inl h)) X5.out.zA,X5.out.c.yb.ranged (by omega) he hf⟩,X5.out.bi.ranged (by omega) he hf⟩)
      clear st mb hin he hf hD tN KH
      gi_wp2
      refine⟨?_,?_⟩
      case refine_1=>
       (repeat apply Exists.intro)
       refine⟨?_,rfl⟩;exact⟨t+1,S3,by simp,by omega,DX.out.1,DX.out.2⟩
      case refine_2=>
       simp[intOf];omega
     case stop=>
      rintro c k S' w6 hk ⟨rfl,S3,k',rfl,hk',st⟩ hin he hf hD tN;obtain⟨L,JX,hnd,hL⟩:=X5.out.c.marks.uq (X:=X) (fun x hx=>Kk x hx) X5.out.bf.2.2 rfl he hf (Nat.le_refl _) hD (fun h=>tN (.inl h)) X5.out.zA
      have EN:=af (show∀w',Fr (fun x=>x∈L) w6 w'->∀v,(∃v',Ending.returned v=.returned v')/\∃S',di S' w'/\((Ext S' S W/\Fr S W w'/\J (jO m.G q).length S' w')\/(Ext S' (dK S X) W/\Fr (dK S X) W w'/\∃k,k<=(jO m.G q).length/\Jx k S' w'))from fun w' hf v=>by
       have s2:=st.own Ba hf fun x hx=>⟨(hL x hx).1,(hL x hx).2.1⟩
       exact⟨⟨v,rfl⟩,S3,s2.bK,.inr ⟨s2.ext,s2.fr,k',hk',s2.j⟩⟩)
      have LM:=af (show∀(fn:Func) (tmps:Array Value) (R:Ending->World->Prop),(∀w',Fr (fun x=>x∈L) w6 w'->∃v,(results fn tmps).run Tryz.prog w'=.ok v w'/\R (.returned v) w')->LeavesInM Fence.wide 9 Tryz.prog fn tmps R (Rg.mark w5.heap.size::JE) .returning w6 from fun fn tmps R hR=>by
       rw[JX]
       exact zL L w6 hnd (fun D h=>(hL D h).2.2) hR)
      clear st hin he hf hD tN hL hnd JX KH
      gi_wp2
      refine LM.out _ _ _ ?_;exact fun w' hf=>⟨_,results_none rfl _ _ _,EN.out w' hf _⟩
    ·obtain rfl:t=m.G.terms.length+1:=by omega
     clear c0 c1 c2 c3 c4 c5 d0 hb0 c6 c7 PA C4 Fg Fh IU
     gi_wp2
     refine⟨?_,?_⟩
     case refine_1=>
      (repeat apply Exists.intro)
      refine⟨?_,rfl⟩;exact⟨i+1,S2,by simp,by omega,by rw[←zSz];exact C2.out⟩
     case refine_2=>
      simp[intOf];omega
  ·obtain rfl:i=m.nS:=by omega
   clear c0 c1 c2 c3 c4 c5 d0 hb0 BI;obtain⟨L,rfl,hnd,hL⟩:=ST.out.marks;have EN:=af (fun w' (hf:Fr (fun x=>x∈L) wr w')=>DN.out _ w' (ST.out.st.own hJ hf fun x hx=>⟨(hL x hx).1,(hL x hx).2.1⟩));have LM:=af (show∀(fn:Func) (tmps:Array Value) (R:Ending->World->Prop),(∀w',Fr (fun x=>x∈L) wr w'->∃v,(results fn tmps).run Tryz.prog w'=.ok v w'/\R (.returned v) w')->LeavesInM Fence.wide 9 Tryz.prog fn tmps R (L.map Rg.mark) .returning wr from fun fn tmps R hR=>zL L wr hnd (fun D h=>(hL D h).2.2) hR);clear hL hnd
   gi_wp2
   refine LM.out _ _ _ ?_;exact fun w' hf=>⟨_,results_none rfl _ _ _,EN.out w' hf _⟩
end Ac
namespace Lk
open Gr (dD)
open Im
open Au
theorem Mz{q r}(hq:q.2.length=q.1.length)(hr:r.2.length=r.1.length)(h:states q=states r):q=r:=by
 have h1:q.1=r.1:=by
  have:=congrArg (List.map Prod.fst) h;unfold states at this
  rwa [List.map_fst_zip (by omega),List.map_fst_zip (by omega)]at this
 have h2:q.2=r.2:=by
  have:=congrArg (List.map Prod.snd) h;unfold states at this
  rwa [List.map_snd_zip (by omega),List.map_snd_zip (by omega)]at this
 exact Prod.ext h1 h2
def qB:Whole:=([k0,k1,k2,k3,k4],[t0,t1,[],[],[]])
theorem Ev{q}(h:bE GB 0 (states q))(D:Done GB q):q=qB:=Mz D.all rfl ((h.uniq Xp).2.trans rfl)
theorem zTJ{x}(hx:bo GB x=true)(hb:aZ GB x=true)(ho:dD GB (aQ GB x)≠[]):yU GB x=[]:=by
 have hm:=uC hx;have key:∀x∈allI GB,aZ GB x=true->dD GB (aQ GB x)≠[]->yU GB x=[]:=by decide+kernel
 exact key x hm hb ho
theorem Hz(D:Done GB qB){i}{x}{t}(h:La GB qB i x t):t=0:=by
 induction h with
 |start=>rfl
 |move _ _ _ ih=>exact ih
 |opens h1 h2 h3 h4 ih=>
  rename_i i r x t u;have hr:=zTJ (oF (uI D zO h1).2) h2 (fun e=>by rw[e]at h3;cases h3);rw[hr,ih,List.nil_append]at h4;have:=(zR (G:=GB) zO (t:=0) (.inl rfl) (l:=[]) (u:=u)).1 h4;rcases this with h5|⟨_,h5⟩
  ·obtain⟨pre,y,post,e,_⟩:=h5;simp at e
  ·exact h5
theorem Zi:La GB qB 2 (1,1) 0:=by
 have h1:La GB qB 0 (2,0) 0:=.start;have h2:La GB qB 0 (1,0) 0:=.opens (r:=1) h1 (by decide+kernel) (by decide+kernel) ((zR (G:=GB) zO (.inl rfl)).2 (.inr ⟨(fun z hz=>by cases hz),rfl⟩));exact .move (x:=(1,0)) h2 (by decide+kernel) (by decide+kernel)
end Lk
namespace Ac
open Im
open Au
open Lk (uI aV qB Ev Hz)
theorem zUq{G}{q}{i t}(P)(h:∀k,k<=G.rules.length->eB G q i k t=true->P k=true):(bh G q i t).length<=(lN q i t).length+((List.range (G.rules.length+1)).filter P).length:=by
 have h1:(iB G q i t).length<=((List.range G.rules.length).filter P).length:=by
  unfold iB;rw[List.length_map,←List.countP_eq_length_filter,←List.countP_eq_length_filter];exact List.countP_mono_left fun k hk e=>h k (by have:=List.mem_range.1 hk;omega) e
 have h2:(iu G q i t).length<=([G.rules.length].filter P).length:=by
  unfold iu;split
  ·rename_i e;rw[List.filter_cons,if_pos (h _ (Nat.le_refl _) e)];simp
  ·simp
 unfold bh;rw[List.length_append,List.length_append,List.range_succ,List.filter_append,List.length_append];omega
theorem zPr{G}{q}{i t}(h:(bh G q i t).length<=1):cellC G q i t=[]:=by
 unfold cellC;rcases hl:bh G q i t with _|⟨a,_|⟨b,l⟩⟩
 ·rfl
 ·rfl
 ·rw[hl]at h;simp at h
def l7:Nat->List au
 |0=>kK GB 4 k0
 |1=>kK GB 4 k1
 |2=>kK GB 4 k2
 |3=>kK GB 4 k3
 |_=>kK GB 4 k4
theorem Ox{i}(hi:i<5):Is (l7 i) (cM GB (bp qB.1 i)):=by
 have:i=0\/i=1\/i=2\/i=3\/i=4:=by omega
 rcases this with rfl|rfl|rfl|rfl|rfl
 ·exact sL (G:=GB) (L:=k0) 4 (by decide+kernel) (by decide+kernel) (by decide+kernel)
 ·exact sL (G:=GB) (L:=k1) 4 (by decide+kernel) (by decide+kernel) (by decide+kernel)
 ·exact sL (G:=GB) (L:=k2) 4 (by decide+kernel) (by decide+kernel) (by decide+kernel)
 ·exact sL (G:=GB) (L:=k3) 4 (by decide+kernel) (by decide+kernel) (by decide+kernel)
 ·exact sL (G:=GB) (L:=k4) 4 (by decide+kernel) (by decide+kernel) (by decide+kernel)
theorem zTH(D:Done GB qB){i t}(hi:i<5):(bh GB qB i t).length<=(lN qB i t).length+((List.range 3).filter fun k=>decide (aV GB k∈l7 i)&&decide (t=0)).length:=
 zUq (G:=GB) _ fun k hk e=>by
  have l:=yF.1 e;have h1:=(uI D zO l).2;have h2:=Hz D l;rw[Bool.and_eq_true,decide_eq_true_iff,decide_eq_true_iff];exact⟨((Ox hi).2 _).2 h1,by omega⟩
theorem zTI(D:Done GB qB){i t}(hi:i<5)(ht:t<3):(bh GB qB i t).length<=1:=by
 refine Nat.le_trans (zTH D hi) ?_;have key:∀i,i<5->∀t,t<3->(lN qB i t).length+((List.range 3).filter fun k=>decide (aV GB k∈l7 i)&&decide (t=0)).length<=1:=by decide+kernel
 exact key i hi t ht
theorem zQE(D:Done GB qB):jO GB qB=[]:=by
 unfold jO mz;rw[List.flatMap_eq_nil_iff];intro i hi;rw[List.flatMap_eq_nil_iff];intro t ht;exact zPr (zTI D (List.mem_range.1 hi) (List.mem_range.1 ht))
theorem Yx{er}{T}(h:TabIs GB er T):er=0/\T=uu GB qB/\Done GB qB:=by
 cases h with
 |bad h1 h2=>exact absurd (h1.uniq Xp).1 h2
 |clash h1 h2 h3 h4 h5=>
  obtain rfl:=Ev h4 h2;exact absurd (zQE h2) h5
 |all h1 h2 h3 h4 h5=>
  obtain rfl:=Ev h4 h2;exact⟨rfl,rfl,h2⟩
theorem Wh:cm GB qB 0 2=(1,2):=by
 have:lN qB 0 2=[(1,2)]:=by decide+kernel
 unfold cm bh;rw[this]
 rfl
abbrev a0:List au:=[(2,0)]
abbrev a1:List au:=[(1,1)]
abbrev a2:List au:=[(0,1),(2,1)]
abbrev a3:List au:=[(0,2)]
abbrev u0:List (Int×Int):=[(2,1),(3,2)]
abbrev u2:List (Int×Int):=[(1,3)]
abbrev u3:List (Int×Int):=[(2,1),(3,4)]
end Ac
namespace Lk
open Go.RowKit Go.Maps
open Gr (Fits)
open Im
open Au
def lw(W:World):World:=
 ((((W.alloc (.cells #[.string ⟨#[65]⟩,.string ⟨#[66]⟩] 9)).alloc (.cells #[.string ⟨#[115]⟩] 9)).alloc (.cells #[.int .i64 1,.int .i64 3] 3)).alloc (.cells #[.int .i64 2] 3)).alloc
  (.cells #[.int .i64 3,.slice (some ⟨W.heap.size+1+1,0,none⟩) 2 2,.int .i64 3,.slice (some ⟨W.heap.size+1+1+1,0,none⟩) 1 1] 55)
theorem oV(x)(h: -1000<=x)(k:x<=1000):Fits x:=⟨by omega,by omega⟩
