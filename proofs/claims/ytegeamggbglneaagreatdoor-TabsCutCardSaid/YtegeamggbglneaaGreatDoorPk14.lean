/- Proof. -/
import Derived.RangeFuncNested
import Derived.RangeFuncBound
import Derived.RangeFuncCalls
import Derived.RangeFuncLeaves
import Derived.Test.YtegeamggbglneaaGreatDoorPk13
import Derived.Shelf.SlicesG.SearchI
import Derived.Test.YtegeamggbglneaaGreatDoorActsLay
set_option maxHeartbeats 1000000
set_option linter.unusedVariables false
namespace Go.Proofs.YtegeamggbglneaaGreatDoor
namespace Rg
open Go.RowKit
open Go.Proofs.YtegeamggbglneaaGreatDoor.Sep
variable {P:Program}
theorem Ha{n m l f:Nat}{o}{tmps}{assign body}{w}{R}(h:RoundIn Fence.wide n P l f tmps assign body w R):RoundIn {Fence.wide with round:=o} m P l f tmps assign body w R:=
 ⟨h.1,fun c cs _=>h.2 c cs (room_wide _)⟩
theorem uy{m f:Nat}{o}{args}{w}{R}(h:Calls P f args w R):CallsIn {Fence.wide with round:=o} m P f args w R:=
 callsIn_wide.2 h
theorem VF{n m f:Nat}{o}{args}{w}{R}(h:CallsIn Fence.wide n P f args w R):CallsIn {Fence.wide with round:=o} m P f args w R:=uy (callsIn_wide.1 h)
def Holds(B:Nat)(J:Nat->(Nat->Prop)->World->Prop):Prop:=
 ∀k S T A A',J k S A->di S A->Fr T A A'->(∀x,T x->B<=x/\¬S x)->J k S A'
def dK(S X:Nat->Prop):Nat->Prop:=fun x=>S x\/X x
def Yields(P:Program)(g:Nat)(lb:Array Value)(encs:Nat->Array Value)(N:Nat)(O:Nat->Prop)(w0:World):Prop:=
 ∀(l:Nat) (J Jx:Nat->(Nat->Prop)->World->Prop) (S X:Nat->Prop) (W:World),
  Fr S w0 W->Off S O->di S W->di X W->Holds W.heap.size J->Holds W.heap.size Jx->
  (∀k S1 W1,k<N->J k S1 W1->di S1 W1->YieldAt Fence.wide 0 P l (encs k) W1 fun e W'=>∃S',di S' W'/\((e=.returned (.bool true)/\Ext S' S1 W1/\Fr S1 W1 W'/\J (k+1) S' W')\/(e=.returned (.bool false)/\Ext S' (dK S1 X) W1/\Fr (dK S1 X) W1 W'/\Jx (k+1) S' W')))->
  J 0 S W->
  CallsIn Fence.wide 0 P g (#[.func (.yield l) #[] #[]]++lb) W fun e W'=>(∃v,e=.returned v)/\∃S',di S' W'/\((Ext S' S W/\Fr S W W'/\J N S' W')\/(Ext S' (dK S X) W/\Fr (dK S X) W W'/\∃k,k<=N/\Jx k S' W'))
def zWQ(X:Nat->Prop)(I:Nat->(Nat->Prop)->World->Prop)(Ix:Code->Nat->(Nat->Prop)->World->Prop)(k:Nat)(S1:Nat->Prop)(W W2:World):Exit->Act->World->Prop
 | .normal,_,W3=>∃S',Ext S' S1 W/\Fr (fun x=>S1 x\/W.heap.size<=x) W2 W3/\di S' W3/\I k S' W3
 | .ret,_,W3=>∃S',Ext S' (dK S1 X) W/\Fr (fun x=>dK S1 X x\/W.heap.size<=x) W2 W3/\di S' W3/\Ix .ret k S' W3
 | .exit id,_,W3=>∃S',Ext S' (dK S1 X) W/\Fr (fun x=>dK S1 X x\/W.heap.size<=x) W2 W3/\di S' W3/\Ix (.exit id) k S' W3
 | .goto t,_,W3=>∃S',Ext S' (dK S1 X) W/\Fr (fun x=>dK S1 X x\/W.heap.size<=x) W2 W3/\di S' W3/\Ix (.goto t) k S' W3
 | .panic _,_,_=>False
 | .outgrown,_,_=>False
theorem uF(w)(l)(o):Fr (fun x=>x=l) w (w.putObj l o):=
 ⟨rfl,rfl,rfl,by simp,fun k _ hk=>World.putObj_heap_other hk⟩
section
variable {S1 S':Nat->Prop} {W W1 W2 W3:World} {l:Nat} {o:Obj}
theorem Wc{S2:Nat->Prop}(h0:∀x,S1 x->S2 x)(h1:Fr S1 W W1)(h2:Fr (fun x=>S2 x\/W.heap.size<=x) (W1.putObj l o) W3)(o'):Fr (fun x=>S2 x\/x=l) W (W3.putObj l o'):=
 (((h1.mono (T:=fun x=>S2 x\/x=l) fun k e=> .inl (h0 k e)).trans (uF W1 l o) fun k e=> .inl (.inr e)).trans h2 fun k e=>e.elim (fun e=> .inl (.inl e)) fun e=> .inr e).trans (uF W3 l o') fun k e=> .inl (.inr e)
theorem fI{T}(h:Fr T W1 W3){k}{o}(hk:W1.heap[k]?=some o)(hT:¬T k):W3.heap[k]?=some o:=
 (h.block k (Array.getElem?_eq_some_iff.1 hk).1 hT).trans hk
theorem zU9(h:Ext S' S1 W):Ext (fun x=>S' x\/x=l) (fun x=>S1 x\/x=l) W:=fun k e=>e.elim (fun e=>(h k e).imp .inl id) fun e=> .inl (.inr e)
end
structure AA (S0:Nat->Prop) (w:World) (rec:LoopState->Option Code->Loop) (st:LoopState) (pe:Option Code) (S:Nat->Prop) (W:World):Prop where
 ext:Ext S S0 w
 fr:Fr S0 w W
 loop:W.heap[w.heap.size+1]?=some (.loop (rec st pe))
 rest:W.heap[w.heap.size]?=some (.deferred (some []))
 bK:di S W
 nl:¬S (w.heap.size+1)
 nd:¬S w.heap.size
theorem MV{n N:Nat}{g:Operand}{ps:Array Tmp}{assign body:Code}{Q:Exit->Act->World->Prop}{a:Act}{w:World}{gf:Nat}{lb:Array Value}
  (hg:a.eval g=.func (.func gf) #[] lb) (eg:∀args w,(callFunc gf args).run P w=.ok (.enter gf args) w) {encs:Nat->Array Value} {O:Nat->Prop}
  (hseq:Yields P gf lb encs N O w) (hps:∀k,(encs k).size=ps.size)
  (I:Nat->(Nat->Prop)->World->Prop) (Ix:Code->Nat->(Nat->Prop)->World->Prop) (hI:Holds w.heap.size I) (A9:∀c,Holds w.heap.size (Ix c)) (S X:Nat->Prop) (hO:Off S O) (qy:di O w) (hS:di S w) (hX:di X w) (h0:I 0 S w)
  (xN:∀(l k:Nat) (S1:Nat->Prop) (W:World),k<N->w.heap.size<=l->l<W.heap.size->¬S1 l->I k S1 W->di S1 W->Ext S1 S w->Fr S w W->
   assign.wpIn (Fence.wide.inRound l) 9 P (Exit.then (fun a1 W1=>Fr S1 W W1/\∀W2,Fr (fun x=>x=l) W1 W2->W2.heap.size=W1.heap.size->body.wpIn (Fence.wide.inRound l) 9 P (zWQ X I Ix (k+1) S1 W W2) a1 W2) (fun _ _ _=>False))
    {tmps:=(ps.zip (encs k)).foldl (fun t (p,v)=>t.setIfInBounds p v) a.tmps,defers:=[]} W)
  (hdone:∀(S':Nat->Prop) (W:World),I N S' W->di S' W->Ext S' S w->Fr S w W->W.heap[w.heap.size]?=some (.deferred (some []))->¬S' w.heap.size->Q .normal {a with defers:={target:=.collected w.heap.size,args:=#[]}::a.defers} W)
  (CM:∀(c:Code) (k:Nat) (S':Nat->Prop) (W:World),k<=N->Ix c k S' W->di S' W->Ext S' (dK S X) w->Fr (dK S X) w W->W.heap[w.heap.size]?=some (.deferred (some []))->¬S' w.heap.size->c.wpIn Fence.wide n P Q {a with defers:={target:=.collected w.heap.size,args:=#[]}::a.defers} W):
  (Code.rangeFunc g ps assign body).wpIn Fence.wide n P Q a w:=by
 refine wpIn_rangeFunc ?_;intro fn _;obtain⟨rec,hrec⟩:∃rec:LoopState->Option Code->Loop,rec=fun st pe=>{state:=st,pending:=pe,fn,tmps:=a.tmps,params:=ps,assign,body,defers:=w.heap.size}:=⟨_,rfl⟩
 obtain⟨We,tQ⟩:∃We,(w.alloc (.deferred (some []))).alloc (.loop (rec .ready none))=We:=⟨_,rfl⟩;have hsz:We.heap.size=w.heap.size+2:=by rw[←tQ];simp
 have JS:∀T,Fr T w We:=fun T=>by rw[←tQ];exact((Fr.refl T w).alloc _).alloc _
 have Bb:AA S w rec .ready none S We:=by
  refine⟨.refl _ _,JS _,?_,?_,hS.le (by omega),fun h=>by have:=hS _ h;omega,fun h=>by have:=hS _ h;omega⟩
  ·rw[←tQ];have:=World.alloc_heap_new (w.alloc (.deferred (some []))) (.loop (rec .ready none))
   rwa [World.size_alloc]at this
  ·rw[←tQ];exact(Below.heap_alloc _ _ _ (by simp)).trans (World.alloc_heap_new w _)
 have hI0:I 0 S We:=hI 0 S (fun _=>False) w We h0 hS (JS _) fun x h=>h.elim
 refine⟨w.heap.size+1,[{target:=.collected w.heap.size,args:=#[]}],We,{target:=.fn (.func gf) lb,args:=#[.func (.yield (w.heap.size+1)) #[] #[]]},We,gf,
  #[.func (.yield (w.heap.size+1)) #[] #[]]++lb,We,?_,?_,?_,?_,fun h=>by simp[Fence.wide]at h,?_⟩
 ·rw[←tQ,hrec];exact run_enterLoop_outer _ _ _ _ _
 ·simp only[resolve,hg];simp[go_sem]
 ·intro f' _;trivial
 ·simp[invoke,go_sem,eg]
 have hold:∀(Y:Nat->(Nat->Prop)->World->Prop) (S0:Nat->Prop) (st:LoopState) (pe:Option Code),Holds w.heap.size Y->Holds We.heap.size fun k S' W=>∃S1,S'=(fun x=>S1 x\/x=w.heap.size+1)/\Y k S1 W/\AA S0 w rec st pe S1 W:=by
  rintro Y S0 st pe hY k S' T A A' ⟨S1,rfl,hx,r⟩ hi hf hT;refine⟨S1,rfl,hY k S1 T A A' hx r.bK hf fun x hx=>⟨by have:=(hT x hx).1;omega,fun h=>(hT x hx).2 (.inl h)⟩,r.ext,r.fr.trans hf (fun x hx=> .inr (by have:=(hT x hx).1;omega)),fI hf r.loop fun h=>(hT _ h).2 (.inr rfl),fI hf r.rest fun h=>by have:=(hT _ h).1;omega,r.bK.le hf.size,r.nl,r.nd⟩
 refine(show CallsIn Fence.wide (n-1) P gf _ We _ from uy (callsIn_wide.1 (hseq (w.heap.size+1)
  (fun k S' W=>∃S1,S'=(fun x=>S1 x\/x=w.heap.size+1)/\I k S1 W/\AA S w rec .ready none S1 W)
  (fun k S' W=>∃c S1,S'=(fun x=>S1 x\/x=w.heap.size+1)/\Ix c k S1 W/\AA (dK S X) w rec .done (some c) S1 W)
  (fun x=>S x\/x=w.heap.size+1) X We ?_ ?_ ?_ (hX.le (by omega)) (hold I S _ _ hI) ?_ ?_ ⟨S,rfl,hI0,Bb⟩))).mono ?_
 ·exact(JS _)
 ·rintro k (h|rfl) ho
  ·exact hO k h ho
  ·have:=qy _ ho;omega
 ·rintro k (h|rfl)
  ·exact Bb.bK k h
  ·omega
 ·rintro k S' T A A' ⟨c,h⟩ hi hf hT;exact⟨c,hold (Ix c) _ _ _ (A9 c) k S' T A A' h hi hf hT⟩
 ·rintro k S' W hk ⟨S1,rfl,hi,r⟩ hin;have hlt:w.heap.size+1<W.heap.size:=(Array.getElem?_eq_some_iff.1 r.loop).1;have hxl:∀x,X x->x<w.heap.size:=hX;have hy:=run_yield (P:=P) (args:=encs k) r.loop (by rw[hrec];exact hps k);rw[hrec]at hy;refine⟨fn,_,assign,body,hy,Ha (o:=none) (roundIn_of_wpIn (F:=Fence.wide) (n:=9) trivial (wpIn_mono (xN (w.heap.size+1) k S1 W hk (by omega) hlt r.nl hi r.bK r.ext r.fr) ?_))⟩;clear hy;rintro e a1 W1 hp;cases e with
  |normal=>
   obtain⟨h1,h2⟩:=hp;have iJ:=fI h1 r.loop r.nl;refine⟨_,run_beginRound iJ (by rw[hrec]),?_⟩;have hb:=h2 _ (uF W1 (w.heap.size+1) (.loop {rec .ready none with state:=.busy})) (by simp);have hl2:(W1.putObj (w.heap.size+1) (.loop {rec .ready none with state:=.busy})).heap[w.heap.size+1]?=some (.loop {rec .ready none with state:=.busy}):=World.putObj_heap_same (Array.getElem?_eq_some_iff.1 iJ).1;refine wpIn_mono hb ?_
   have fin:∀(Y:Nat->(Nat->Prop)->World->Prop) (Sb:Nat->Prop) (jump:Option Code) (W3:World),Holds w.heap.size Y->(∀x,S1 x->Sb x)->(∀x,Sb x->S1 x\/X x)->(∃S',Ext S' Sb W/\Fr (fun x=>Sb x\/W.heap.size<=x) (W1.putObj (w.heap.size+1) (.loop {rec .ready none with state:=.busy})) W3/\di S' W3/\Y (k+1) S' W3)->
     ∃W',(Instr.endRound (w.heap.size+1) jump).run P W3=.ok (.bool jump.isNone) W'/\∃S',Ext (fun x=>S' x\/x=w.heap.size+1) (fun x=>Sb x\/x=w.heap.size+1) W/\Fr (fun x=>Sb x\/x=w.heap.size+1) W W'/\di (fun x=>S' x\/x=w.heap.size+1) W'/\Y (k+1) S' W'/\
      (∀S0,(∀x,Sb x->S0 x\/w.heap.size<=x)->(∀x,S x->S0 x)->AA S0 w rec (if jump.isNone then .ready else .done) jump S' W'):=by
    rintro Y Sb jump W3 hY hb1 hb2 ⟨S',he,hf,hin',hx⟩;have hsl:¬Sb (w.heap.size+1):=fun h=>(hb2 _ h).elim r.nl fun h=>by have:=hxl _ h;omega
    have RZ:¬Sb w.heap.size:=fun h=>(hb2 _ h).elim r.nd fun h=>by have:=hxl _ h;omega
    have hnl:¬S' (w.heap.size+1):=fun h=>(he _ h).elim hsl fun h=>by omega
    have hnd:¬S' w.heap.size:=fun h=>(he _ h).elim RZ fun h=>by omega
    have rZ:=fI hf hl2 fun h=>h.elim hsl fun h=>by omega
    have hk3:W3.heap[w.heap.size]?=some (.deferred (some [])):=fI hf ((World.putObj_heap_other (by omega)).trans (fI h1 r.rest r.nd)) fun h=>h.elim RZ fun h=>by omega
    have Cg:=(Array.getElem?_eq_some_iff.1 rZ).1;refine⟨_,run_endRound (P:=P) jump rZ,S',zU9 he,Wc hb1 h1 hf _,?_,hY _ _ _ _ _ hx hin' (uF W3 _ _) (by rintro x rfl;exact⟨by omega,hnl⟩),fun S0 hs0 hs1=>⟨?_,?_,?_,?_,hin'.le (by simp),hnl,hnd⟩⟩
    ·rintro x (h|rfl)
     ·simp only[World.putObj_size];exact hin' x h
     ·simp only[World.putObj_size];exact Cg
    ·intro x hx2;rcases he x hx2 with h|h
     ·exact hs0 x h
     ·exact .inr (Nat.le_trans r.fr.size h)
    ·refine(r.fr.mono hs1).trans (Wc hb1 h1 hf _) (fun x hx=>hx.elim (fun h=>hs0 x h) fun h=> .inr (by omega))
    ·rw[World.putObj_heap_same Cg,hrec]
    ·exact(World.putObj_heap_other (by omega)).trans hk3
   have hx1:∀x,S1 x->S x\/w.heap.size<=x:=r.ext;have hx2:∀x,dK S1 X x->dK S X x\/w.heap.size<=x:=fun x h=>h.elim (fun h=>(r.ext x h).imp .inl id) fun h=> .inl (.inr h)
   have zq:∀(T:Nat->Prop) (W':World),Ext T (fun x=>dK S1 X x\/x=w.heap.size+1) W'->Ext T (dK (fun x=>S1 x\/x=w.heap.size+1) X) W':=fun T W' h x hx=>(h x hx).imp (fun h=>h.elim (fun h=>h.elim (fun h=> .inl (.inl h)) .inr) fun h=> .inl (.inr h)) id
   have zr:∀(A B:World),Fr (fun x=>dK S1 X x\/x=w.heap.size+1) A B->Fr (dK (fun x=>S1 x\/x=w.heap.size+1) X) A B:=fun A B h=>h.mono fun x h=>h.elim (fun h=>h.elim (fun h=> .inl (.inl h)) .inr) fun h=> .inl (.inr h)
   rintro e a3 W3 hp;cases e with
   |normal=>
    obtain⟨W',hr,S',g1,g2,g3,g4,g5⟩:=fin I S1 none W3 hI (fun _ h=>h) (fun _ h=> .inl h) hp;exact⟨_,_,hr,_,g3,.inl ⟨rfl,g1,g2,S',rfl,g4,g5 S hx1 fun _ h=>h⟩⟩
   |ret=>
    obtain⟨W',hr,S',g1,g2,g3,g4,g5⟩:=fin (Ix .ret) (dK S1 X) (some .ret) W3 (A9 _) (fun _ h=> .inl h) (fun _ h=>h) hp;exact⟨_,_,hr,_,g3,.inr ⟨rfl,zq _ _ g1,zr _ _ g2,.ret,S',rfl,g4,g5 _ hx2 fun _ h=> .inl h⟩⟩
   |exit id=>
    obtain⟨W',hr,S',g1,g2,g3,g4,g5⟩:=fin (Ix (.exit id)) (dK S1 X) (some (.exit id)) W3 (A9 _) (fun _ h=> .inl h) (fun _ h=>h) hp;exact⟨_,_,hr,_,g3,.inr ⟨rfl,zq _ _ g1,zr _ _ g2,.exit id,S',rfl,g4,g5 _ hx2 fun _ h=> .inl h⟩⟩
   |goto t=>
    obtain⟨W',hr,S',g1,g2,g3,g4,g5⟩:=fin (Ix (.goto t)) (dK S1 X) (some (.goto t)) W3 (A9 _) (fun _ h=> .inl h) (fun _ h=>h) hp;exact⟨_,_,hr,_,g3,.inr ⟨rfl,zq _ _ g1,zr _ _ g2,.goto t,S',rfl,g4,g5 _ hx2 fun _ h=> .inl h⟩⟩
   |panic ch=>exact hp.elim
   |outgrown=>exact hp.elim
  |_=>exact hp.elim
 ·rintro e W2 ⟨⟨v,rfl⟩,S',hin,h⟩;rcases h with⟨he,hf,S1,rfl,hi,r⟩|⟨he,hf,k,hk,c,S1,rfl,hi,r⟩
  ·have hr:=run_endLoop (P:=P) r.loop (by rw[hrec];simp);refine⟨none,_,by rw[hrec]at hr;exact hr,hdone S1 _ (hI _ _ _ _ _ hi r.bK (uF W2 _ _) (by rintro x rfl;exact⟨by omega,r.nl⟩)) (r.bK.le (by simp)) r.ext (r.fr.trans (uF W2 _ _) fun k e=> .inr (by omega)) ((World.putObj_heap_other (by omega)).trans r.rest) r.nd⟩
  ·have hr:=run_endLoop (P:=P) r.loop (by rw[hrec];simp);refine⟨some c,_,by rw[hrec]at hr;exact hr,CM c k S1 _ hk (A9 c _ _ _ _ _ hi r.bK (uF W2 _ _) (by rintro x rfl;exact⟨by omega,r.nl⟩)) (r.bK.le (by simp)) r.ext (r.fr.trans (uF W2 _ _) fun k e=> .inr (by omega)) ((World.putObj_heap_other (by omega)).trans r.rest) r.nd⟩
structure St (J:Nat->(Nat->Prop)->World->Prop) (S O:Nat->Prop) (We:World) (k:Nat) (S1:Nat->Prop) (W:World):Prop where
 j:J k S1 W
 bK:di S1 W
 ext:Ext S1 S We
 fr:Fr S We W
 off:Off S1 O
section
variable {J Jx:Nat->(Nat->Prop)->World->Prop} {S O S1 T:Nat->Prop} {We W W' w0:World} {k:Nat}
theorem St.start(h0:J 0 S We)(hin:di S We)(hO:Off S O):St J S O We 0 S We:=⟨h0,hin,.refl _ _,.refl _ _,hO⟩
theorem St.own(h:St J S O We k S1 W)(hJ:Holds We.heap.size J)(hf:Fr T W W')(hT:∀x,T x->We.heap.size<=x/\¬S1 x):St J S O We k S1 W':=
 ⟨hJ _ _ _ _ _ h.j h.bK hf hT,h.bK.le hf.size,h.ext,h.fr.trans hf fun x hx=> .inr (hT x hx).1,h.off⟩
theorem St.went(h:St J S O We k S1 W)(hJ:Holds We.heap.size J)(hb:Below W.heap.size W W'):St J S O We k S1 W':=
 h.own hJ (T:=fun _=>False) (.of_below hb) fun _ hx=>hx.elim
theorem St.alloc(h:St J S O We k S1 W)(hJ:Holds We.heap.size J)(o):St J S O We k S1 (W.alloc o):=
 h.own hJ (T:=fun _=>False) ((Fr.refl _ W).alloc o) fun _ hx=>hx.elim
def Said(X:Nat->Prop)(J Jx:Nat->(Nat->Prop)->World->Prop)(k:Nat)(S1:Nat->Prop)(W1:World)(e:Ending)(W':World):Prop:=
 ∃S',di S' W'/\((e=.returned (.bool true)/\Ext S' S1 W1/\Fr S1 W1 W'/\J (k+1) S' W')\/(e=.returned (.bool false)/\Ext S' (dK S1 X) W1/\Fr (dK S1 X) W1 W'/\Jx (k+1) S' W'))
structure Fin (Jx:Nat->(Nat->Prop)->World->Prop) (S X:Nat->Prop) (We:World) (k:Nat) (S1:Nat->Prop) (W:World):Prop where
 j:Jx k S1 W
 bK:di S1 W
 ext:Ext S1 (dK S X) We
 fr:Fr (dK S X) We W
theorem Fin.own{X}(h:Fin J S X We k S1 W)(hJ:Holds We.heap.size J)(hf:Fr T W W')(hT:∀x,T x->We.heap.size<=x/\¬S1 x):Fin J S X We k S1 W':=
 ⟨hJ _ _ _ _ _ h.j h.bK hf hT,h.bK.le hf.size,h.ext,h.fr.trans hf fun x hx=> .inr (hT x hx).1⟩
theorem St.stop{X}(h:St J S O We k S1 W){S'}(he:Ext S' (dK S1 X) W)(hf:Fr (dK S1 X) W W')(hi:di S' W'){J'}{k'}(hj:J' k' S' W'):Fin J' S X We k' S' W':=
 ⟨hj,hi,fun x hx=>(he x hx).elim (fun h2=>h2.elim (fun h3=>(h.ext x h3).imp .inl id) fun h3=> .inl (.inr h3)) fun h2=> .inr (Nat.le_trans h.fr.size h2),
  (h.fr.mono (T:=dK S X) fun x e=> .inl e).trans hf fun x hx=>hx.elim (fun h3=>(h.ext x h3).imp .inl id) fun h3=> .inl (.inr h3)⟩
theorem St.then(h:St J S O We k S1 W)(hO:di O We){S'}(he:Ext S' S1 W)(hf:Fr S1 W W')(hi:di S' W'){J'}{k'}(hj:J' k' S' W'):St J' S O We k' S' W':=
 ⟨hj,hi,h.ext.trans he h.fr.size,h.fr.trans hf h.ext,h.off.ext he (hO.le h.fr.size)⟩
theorem St.same(h:St J S O We k S1 W)(hO:di O We)(hS:Off S O){x}(hx:O x):W.heap[x]?=We.heap[x]?:=h.fr.block x (hO x hx) fun hs=>hS x hs hx
theorem St.below(h:St J S O We k S1 W)(hS:Off S O){n}{wD}(hb:Below n wD We)(hn:∀x,x<n->O x)(hs:n<=We.heap.size):Below n wD W:=
 ⟨h.fr.os.trans hb.os,h.fr.tape.trans hb.tape,h.fr.output.trans hb.output,Nat.le_trans hb.size h.fr.size,fun x hx=>(h.fr.block x (by omega) fun hs=>hS x hs (hn x hx)).trans (hb.block x hx)⟩
def Mine(We:World)(S1:Nat->Prop)(W:World)(b:Nat)(o:Obj):Prop:=We.heap.size<=b/\¬S1 b/\W.heap[b]?=some o
theorem Mine.lt{o}{b}(h:Mine We S1 W b o):b<W.heap.size:=(Array.getElem?_eq_some_iff.1 h.2.2).1
theorem Mine.own{o}{b}(h:Mine We S1 W b o)(hf:Fr T W W')(hb:¬T b):Mine We S1 W' b o:=⟨h.1,h.2.1,fI hf h.2.2 hb⟩
theorem Mine.alloc{o}{b}(h:Mine We S1 W b o)(o'):Mine We S1 (W.alloc o') b o:=h.own (T:=fun _=>False) ((Fr.refl _ W).alloc o') id
theorem Mine.went{o}{b}(h:Mine We S1 W b o)(hb:Below W.heap.size W W'):Mine We S1 W' b o:=h.own (T:=fun _=>False) (.of_below hb) id
theorem Mine.then{o}{b}(h:Mine We S1 W b o){S'}(he:Ext S' S1 W)(hf:Fr S1 W W'):Mine We S' W' b o:=
 ⟨h.1,fun hs=>(he b hs).elim h.2.1 fun h2=>by have:=h.lt;omega,fI hf h.2.2 h.2.1⟩
theorem Mine.ranged{o}{b bf}(h:Mine We S1 W b o){S'}(hne:b≠bf)(he:Ext (fun x=>S' x\/x=bf) (fun x=>S1 x\/x=bf) W)(hf:Fr (fun x=>S1 x\/x=bf) W W'):Mine We S' W' b o:=
 ⟨h.1,fun hs=>(he b (.inl hs)).elim (fun h2=>h2.elim h.2.1 hne) fun h2=>by have:=h.lt;omega,fI hf h.2.2 fun h2=>h2.elim h.2.1 hne⟩
theorem St.new(h:St J S O We k S1 W){o}:Mine We S1 (W.alloc o) W.heap.size o:=
 ⟨h.fr.size,fun hs=>by have:=h.bK _ hs;omega,World.alloc_heap_new _ _⟩
def mark(D:Nat):Deferred:={target:=.collected D,args:=#[]}
def Marks(We:World)(S1:Nat->Prop)(W:World)(ds:List Deferred):Prop:=∃L:List Nat,ds=L.map mark/\L.Nodup/\∀D∈L,Mine We S1 W D (.deferred (some []))
theorem Marks.nil:Marks We S1 W []:=⟨[],rfl,List.nodup_nil,fun _ h=>by cases h⟩
theorem Marks.own{ds}(h:Marks We S1 W ds)(hf:Fr T W W')(hT:∀x,T x->W.heap.size<=x\/∃o,W.heap[x]?=some o/\o.isCells=true):Marks We S1 W' ds:=by
 obtain⟨L,h1,h2,h3⟩:=h;refine⟨L,h1,h2,fun D hD=>(h3 D hD).own hf fun ht=>?_⟩;rcases hT D ht with h4|⟨o,h4,h5⟩
 ·have:=(h3 D hD).lt;omega
 ·rw[(h3 D hD).2.2]at h4;cases h4;cases h5
theorem Marks.alloc{ds}(h:Marks We S1 W ds)(o):Marks We S1 (W.alloc o) ds:=h.own (T:=fun _=>False) ((Fr.refl _ W).alloc o) fun _ h=>h.elim
theorem Marks.ranged{ds}{bf D}(h:Marks We S1 W ds){S'}{o}(xB:W.heap[bf]?=some o)(ho:o.isCells=true)(he:Ext (fun x=>S' x\/x=bf) (fun x=>S1 x\/x=bf) W)(hf:Fr (fun x=>S1 x\/x=bf) W W')
  (hD:W.heap.size<=D) (JN:W'.heap[D]?=some (.deferred (some []))) (tN:¬S' D) (tQ:We.heap.size<=D):Marks We S' W' (mark D::ds):=by
 obtain⟨L,h1,h2,h3⟩:=h;refine⟨D::L,by rw[h1];rfl,List.nodup_cons.2 ⟨fun hm=>by have:=(h3 D hm).lt;omega,h2⟩,fun x hx=>?_⟩;rcases List.mem_cons.1 hx with rfl|hx
 ·exact⟨tQ,tN,JN⟩
 ·refine(h3 x hx).ranged (fun e=>?_) he hf;subst e;rw[(h3 x hx).2.2]at xB;cases xB;cases ho
theorem Marks.uq{X}{ds}{bf D}(h:Marks We S1 W ds)(hX:∀x,X x->x<We.heap.size){S'}{o}(xB:W.heap[bf]?=some o)(ho:o.isCells=true)(he:Ext (fun x=>S' x\/x=bf) (dK (fun x=>S1 x\/x=bf) X) W)(hf:Fr (dK (fun x=>S1 x\/x=bf) X) W W')
  (hD:W.heap.size<=D) (JN:W'.heap[D]?=some (.deferred (some []))) (tN:¬S' D) (tQ:We.heap.size<=D):Marks We S' W' (mark D::ds):=by
 obtain⟨L,h1,h2,h3⟩:=h;refine⟨D::L,by rw[h1];rfl,List.nodup_cons.2 ⟨fun hm=>by have:=(h3 D hm).lt;omega,h2⟩,fun x hx=>?_⟩;rcases List.mem_cons.1 hx with rfl|hx
 ·exact⟨tQ,tN,JN⟩
 ·have m:=h3 x hx
  have hne:¬dK (fun x=>S1 x\/x=bf) X x:=fun h=>h.elim (fun h=>h.elim m.2.1 fun e=>by
   subst e;rw[m.2.2]at xB;cases xB
   cases ho) fun h=>by have:=hX x h;have:=m.1;omega
  exact⟨m.1,fun hs=>(he x (.inl hs)).elim hne fun h=>by have:=m.lt;omega,fI hf m.2.2 hne⟩
theorem zL{n}{F}{fn}{tmps}{R}:∀(L:List Nat) (w:World),L.Nodup->(∀D∈L,w.heap[D]?=some (.deferred (some [])))->
  (∀w',Fr (fun x=>x∈L) w w'->∃v,(results fn tmps).run P w'=.ok v w'/\R (.returned v) w')->LeavesInM F n P fn tmps R (L.map mark) .returning w
 |[],w,_,_,hR=>hR w (.refl _ _)
 |D::L,w,hn,hk,hR=>by
  obtain⟨h1,h2⟩:=List.nodup_cons.1 hn;refine⟨by simp,.inl ⟨D,_,rfl,run_takeDeferred (hk D (List.mem_cons_self ..)),zL L _ h2 (fun x hx=>?_) fun w' hf=>hR w' ?_⟩⟩
  ·exact(World.putObj_heap_other fun e=>h1 (by rw[←e];exact hx)).trans (hk x (List.mem_cons_of_mem _ hx))
  ·exact((uF w D _).mono (T:=fun x=>x∈D::L) fun x e=>by subst e;exact List.mem_cons_self ..).trans hf fun x hx=> .inl (List.mem_cons_of_mem _ hx)
end
theorem js{w:World}{b k}{cs}{T}(h:w.heap[b]?=some (.cells cs T (0,0)))(v):(w.setCell ⟨b,k,none⟩ v).heap[b]?=some (.cells (cs.setIfInBounds k v) T (0,0)):=by
 rw[setCell_eq_setRow w b k cs T (0,0) v h];exact setRow_heap w b cs _ T (0,0) h
theorem jg(w:World)(b k)(v):w.grownBy (w.setCell ⟨b,k,none⟩ v) (some b):=
 have h:=(Fr.refl (fun x=>x=b) w).setCell ⟨b,k,none⟩ rfl v
 ⟨h.os,h.tape,h.output,h.size,fun x hx hne=>h.block x hx fun e=>hne (by rw[e])⟩
end Rg
namespace Ac
open Gr (ai checkN)
open Im
open Au
open Lk (uI gj XM aV dL)
def gP(n:Nat)(Y:List (Nat×List Nat)):List (Nat×List Nat):=
 match Y.getLast? with
 |none=>Y
 |some y=>if y.1=n then y::Y.dropLast else Y
theorem zPg(n)(Y):(gP n Y).length=Y.length:=by
 unfold gP;cases h:Y.getLast? with
 |none=>rfl
 |some y=>
  dsimp only;split
  ·cases Y with
   |nil=>simp at h
   |cons a l=>simp
  ·rfl
def jI(n k:Nat):mR:=if k=n then(3,0)else(2,(k:Int))
open Classical in
theorem Nj(G:ai)(q:Whole)(i:Nat):gP G.rules.length (dL G q i)=
  (if cM G (bp q.1 i) (aV G G.rules.length)then[(G.rules.length,gj G q i (aV G G.rules.length))]else[])++
  ((List.range G.rules.length).filter fun k=>decide (cM G (bp q.1 i) (aV G k))).map fun k=>(k,gj G q i (aV G k)):=by
 have e:dL G q i=(((List.range G.rules.length).filter fun k=>decide (cM G (bp q.1 i) (aV G k))).map fun k=>(k,gj G q i (aV G k)))++(if cM G (bp q.1 i) (aV G G.rules.length)then[(G.rules.length,gj G q i (aV G G.rules.length))]else[]):=by
  unfold dL;rw[List.range_succ,List.filter_append,List.map_append,List.filter_cons];split<;>simp_all
 rw[e]
 have hlt:∀y∈(((List.range G.rules.length).filter fun k=>decide (cM G (bp q.1 i) (aV G k))).map fun k=>(k,gj G q i (aV G k))),y.1<G.rules.length:=by
  intro y hy;obtain⟨k,hk,rfl⟩:=List.mem_map.1 hy;exact List.mem_range.1 (List.mem_filter.1 hk).1
 revert hlt
 generalize (((List.range G.rules.length).filter fun k=>decide (cM G (bp q.1 i) (aV G k))).map fun k=>(k,gj G q i (aV G k)))=A;intro hlt;unfold gP;split
 ·next h=>
  rw[List.getLast?_eq_none_iff]at h;rw[h];obtain⟨h1,h2⟩:=List.append_eq_nil_iff.1 h;rw[h1,h2]
  rfl
 ·next y h=>
  by_cases hc:cM G (bp q.1 i) (aV G G.rules.length)
  ·rw[if_pos hc]at h⊢;rw[List.getLast?_concat]at h;injection h with h
   subst h;rw[if_pos rfl,List.dropLast_concat]
   rfl
  ·rw[if_neg hc]at h⊢;rw[List.append_nil]at h⊢;have:=hlt y (List.mem_of_getLast? h);rw[if_neg (by omega)]
   rfl
open Classical in
theorem VW{G}{q}(D:Done G q)(hv:checkN G=0)(i t):
  ((gP G.rules.length (dL G q i)).filter fun y=>decide (t∈y.2)).map (fun y=>jI G.rules.length y.1)=iu G q i t++iB G q i t:=by
 have hb:∀k,(decide (cM G (bp q.1 i) (aV G k))&&decide (t∈gj G q i (aV G k)))=eB G q i k t:=by
  intro k;rw[Bool.eq_iff_iff,Bool.and_eq_true,decide_eq_true_iff,decide_eq_true_iff,yF,XM];exact⟨fun h=>h.2,fun h=>⟨(uI D hv h).2,h⟩⟩
 rw[Nj,List.filter_append,List.map_append]
 congr 1
 ·unfold iu;have:=hb G.rules.length
  by_cases hc:cM G (bp q.1 i) (aV G G.rules.length)
  ·rw[if_pos hc];rw[decide_eq_true hc,Bool.true_and]at this;rw[List.filter_cons];dsimp only;rw[this];cases eB G q i G.rules.length t<;>simp[jI]
  ·rw[if_neg hc];rw[decide_eq_false hc,Bool.false_and]at this;rw[←this];simp
 ·unfold iB;rw[List.filter_map,List.map_map,List.filter_filter];have e:((fun y:Nat×List Nat=>decide (t∈y.2)) ∘ fun k=>(k,gj G q i (aV G k)))=fun k=>decide (t∈gj G q i (aV G k)):=rfl
  rw[List.filter_congr (q:=fun k=>eB G q i k t) fun k _=>by rw[←hb k,Bool.and_comm];rfl];refine List.map_congr_left fun k hk=>?_
  have:=List.mem_range.1 (List.mem_filter.1 hk).1;show jI _ k= _;unfold jI;rw[if_neg (by omega)]
theorem zLs{α:Type}{Z:List α}{p}{m}(h)(hp:p Z[m]=true):(Z.filter p)[((Z.take m).filter p).length]?=some Z[m]:=by
 have e:Z=Z.take m++Z[m]::Z.drop (m+1):=by simp
 conv=>lhs;rw[e]
 rw[List.filter_append,List.filter_cons,if_pos hp,List.getElem?_append_right (by rw[←e];exact Nat.le_refl _)];simp
theorem zJA{α:Type}{Z:List α}{p}{m}(h):((Z.take (m+1)).filter p).length=((Z.take m).filter p).length+(if p Z[m]then 1 else 0):=by
 rw[List.take_succ_eq_append_getElem h,List.filter_append,List.length_append,List.filter_cons];split<;>simp
theorem Ve(G)(q)(i)(x):(gj G q i x).Pairwise (· < ·):=by
 unfold gj;exact List.Pairwise.filter _ List.pairwise_lt_range
noncomputable def aP(G:ai)(q:Whole)(i:Nat):List (Nat×List Nat):=gP G.rules.length (dL G q i)
theorem zK6{G}{q}{i}{y}(h:y∈aP G q i):y.2.Pairwise (· < ·)/\y.1<=G.rules.length:=by
 classical
 unfold aP at h;rw[Nj,List.mem_append,List.mem_map]at h;rcases h with h|⟨k,hk,rfl⟩
 ·split at h
  ·rw[List.mem_singleton]at h;subst h;exact⟨Ve _ _ _ _,Nat.le_refl _⟩
  ·cases h
 ·have:=List.mem_range.1 (List.mem_filter.1 hk).1;exact⟨Ve _ _ _ _,by dsimp only;omega⟩
def part(Z:List (Nat×List Nat))(t m:Nat):Nat:=((Z.take m).filter fun y=>decide (t∈y.2)).length
theorem Vp(Z)(t):part Z t 0=0:=by simp[part]
theorem zOT{Z}{t m}(h):part Z t (m+1)=part Z t m+(if t∈Z[m].2 then 1 else 0):=by
 unfold part;rw[zJA h];simp
theorem zUp{G}{q}(D:Done G q)(hv:checkN G=0){i t m}(h)(ht:t∈(aP G q i)[m].2):
  (bh G q i t)[(lN q i t).length+part (aP G q i) t m]?=some (jI G.rules.length (aP G q i)[m].1):=by
 unfold bh;rw[List.append_assoc,List.getElem?_append_right (by omega),←VW D hv i t,Nat.add_sub_cancel_left,List.getElem?_map];have:=zLs (Z:=aP G q i) (p:=fun y=>decide (t∈y.2)) h (by simpa using ht);unfold part;rw[show gP G.rules.length (dL G q i)=aP G q i from rfl,this]
 rfl
theorem zSi{G}{q}(D:Done G q)(hv:checkN G=0)(i t):(bh G q i t).length=(lN q i t).length+part (aP G q i) t (aP G q i).length:=by
 unfold bh part;rw[List.append_assoc,List.length_append,←VW D hv i t,List.length_map,List.take_length]
 rfl
theorem zNo(tr)(s):leads tr s= -1\/(s,leads tr s)∈tr:=by
 unfold leads;cases h:tr.find? (fun x=>x.1==s)with
 |none=>exact .inl (by simp)
 |some x=>
  refine .inr ?_;have h1:=List.find?_some h;have h2:=List.mem_of_find?_eq_some h;obtain⟨a,b⟩:=x;simp only[beq_iff_eq]at h1;subst h1;exact h2
theorem Mw{G}{q}(D:Done G q){i}(hi:i<q.1.length)(s):
  leads (q.2.getD i []) s= -1\/∃n:Nat,leads (q.2.getD i []) s=(n:Int)/\n<q.1.length/\1<=s:=by
 rcases zNo (q.2.getD i []) s with h|h
 ·exact .inl h
 ·obtain⟨n,h1,h2,_⟩:=D.to hi h;refine .inr ⟨n,h1,h2,?_⟩;have hl:i<q.2.length:=by rw[D.all];exact hi
  rw[D.ok.trans i hl]at h;obtain⟨j,_,rfl,_,_⟩:=rA.1 h;omega
theorem Uo{G}{q}(D:Done G q){i}(hi:i<q.1.length)(s):p8 (states q) (i:Int) s=leads (q.2.getD i []) s:=by
 have hl:i<(states q).length:=by rw[rD D.all];exact hi
 have h1:=zT D.all hi;rw[List.getElem?_eq_getElem hl]at h1;injection h1 with h1
 rw[Hi hl,h1]
theorem Uc{G}{q}(D:Done G q){i}(hi:i<q.1.length)(t:Nat):
  (p8 (states q) (i:Int) (t:Int)= -1/\lN q i t=[])\/∃n:Nat,p8 (states q) (i:Int) (t:Int)=(n:Int)/\n<q.1.length/\lN q i t=[(1,(n:Int))]:=by
 rw[Uo D hi];unfold lN;rcases Mw D hi (t:Int)with h|⟨n,h1,h2,h3⟩
 ·refine .inl ⟨h,?_⟩;rw[h,if_neg (by omega)]
 ·refine .inr ⟨n,h1,h2,?_⟩;rw[h1,if_pos (by omega)]
end Ac
namespace Ac
open Go.RowKit Go.Maps
open Gr (ai Sh)
open Lk (bD)
open Au
structure Am where
 h:Sh
 G:ai
 aS:Option Addr
 nS:Nat
 cS:Nat
 aL:Option Addr
 nL:Nat
 cL:Nat
def bV(m:Am):Array Value:=#[.slice m.h.a1 m.G.terms.length m.h.c1,.slice m.h.a2 m.G.ah.length m.h.c2,.slice m.h.a3 m.G.rules.length m.h.c3,.int .i64 m.G.start,.slice m.aS m.nS m.cS,.slice m.aL m.nL m.cL]
def AJ(x:mR):Value:=.agg #[.int .i64 x.1,.int .i64 x.2]
theorem zUH(m)(k:Nat)(w)(hk:k<=m.G.rules.length):
  Calls Tryz.prog 122 #[.agg (bV m),.int .i64 (k:Int)] w fun e w'=>e=.returned (AJ (jI m.G.rules.length k))/\Below w.heap.size w w':=by
 have X:=af (show Below w.heap.size w (w.alloc (.cells (bV m) 104))from(Below.refl _ w).alloc (Nat.le_refl _) _);unfold bV at*
 by_cases h:k=m.G.rules.length
 ·have hi:(k:Int)=(m.G.rules.length:Int):=by omega
  unfold jI;rw[if_pos h];go_enter Tryz.func122,Tryz.ntmps122;go_wp2;exact bodyPost_ret (v:=.agg #[.int .i64 3,.int .i64 0]) (by simp[results,Tryz.results122,go_sem]) rfl ⟨rfl,X.out.alloc X.out.size _⟩
 ·have hi:¬((k:Int)=(m.G.rules.length:Int)):=by omega
  unfold jI;rw[if_neg h];go_enter Tryz.func122,Tryz.ntmps122;go_wp2;exact bodyPost_ret (v:=.agg #[.int .i64 2,.int .i64 (k:Int)]) (by simp[results,Tryz.results122,go_sem]) rfl ⟨rfl,X.out.alloc X.out.size _⟩
def uQ(m:Am)(i t:Nat)(w:World):World:=((w.alloc (.cells (bV m) 104)).alloc (.cells #[.int .i64 (i:Int)] 3)).alloc (.cells #[.int .i64 (t:Int)] 3)
theorem WL(m)(i t:Nat)(w):
  Calls Tryz.prog 97 #[.agg (bV m),.int .i64 (i:Int),.int .i64 (t:Int)] w fun e w'=>
   e=.returned (.func (.func 120) #[] #[.pointer (some ⟨w.heap.size,0,none⟩),.pointer (some ⟨w.heap.size+1,0,none⟩),.pointer (some ⟨w.heap.size+1+1,0,none⟩)])/\w'=uQ m i t w:=by
 unfold uQ bV;go_enter Tryz.func97,Tryz.ntmps97;go_wp2;go_ret;exact⟨rfl,rfl⟩
theorem zI4(m)(w):
  Calls Tryz.prog 61 #[.agg (bV m)] w fun e w'=>
   e=.returned (.func (.func 96) #[] #[.pointer (some ⟨w.heap.size,0,none⟩)])/\w'=w.alloc (.cells (bV m) 104):=by
 unfold bV;go_enter Tryz.func61,Tryz.ntmps61;go_wp2;go_ret;exact⟨rfl,rfl⟩
theorem zUu(a)(c t:Nat)(w):
  Calls Tryz.prog 121 #[.slice a 0 c,.int .i64 (t:Int)] w fun e w'=>e=.returned (.tuple #[.int .i64 0,.bool false])/\w'=w:=by
 go_enter Tryz.func121,Tryz.ntmps121;go_wp2;go_loopw [7,8] (fun s7 s8 wr=>s7=.int .i64 0/\s8=.int .i64 0/\wr=w) (fun _ _ _=>0)
 case atStart=>exact⟨rfl,rfl,rfl⟩
 case round=>
  obtain⟨rfl,rfl,rfl⟩:=hrel;go_wp2;go_ret2;exact⟨rfl,rfl⟩
theorem zUt(l)(a)(c t:Nat)(w)(h:Sep.Reads a (bD l) w)(hs:l.Pairwise (· < ·))(hl:l.length<=1000000):
  Calls Tryz.prog 121 #[.slice a l.length c,.int .i64 (t:Int)] w fun e w'=>∃p:Int,e=.returned (.tuple #[.int .i64 p,.bool (decide (t∈l))])/\Below w.heap.size w w':=by
 cases l with
 |nil=>
  refine(zUu a c t w).mono ?_;rintro e w' ⟨rfl,rfl⟩;exact⟨0,by simp,.refl _ _⟩
 |cons x l=>
  obtain⟨b,o,e,_⟩:=h 0 (by simp[bD]);subst e
  have hc:∀j,j<((x::l).map fun k:Nat=>(k:Int)).length->w.cell? ⟨b,o+j,none⟩=some (.int .i64 (((x::l).map fun k:Nat=>(k:Int)).getD j 0)):=by
   intro j hj;rw[List.length_map]at hj;obtain⟨b',o',e,h2⟩:=h j (by simpa[bD]using hj);simp only[Option.some.injEq,Addr.mk.injEq,and_true]at e;obtain⟨rfl,rfl⟩:=e;rw[h2];rw[List.getD_eq_getElem?_getD,List.getElem?_map,List.getElem?_eq_getElem hj];simp only[bD,List.getElem_map,Option.map_some,Option.getD_some]
  have hcon:=AnyG.slices_BinarySearch_int Tryz.bsInt b o (x::l).length c ((x::l).map fun k:Nat=>(k:Int)) (t:Int) w (by simp) (by omega) hc (by
   rw[List.take_of_length_le (by simp),List.pairwise_map]
   exact hs.imp fun {a b} hab=>by omega)
  change Calls Tryz.prog 121 _ _ _ at hcon;refine hcon.mono ?_;rintro e w' ⟨he,q,rfl⟩
  have hb:((x::l).map fun k:Nat=>(k:Int)).contains (t:Int)=decide (t∈x::l):=by
   rw[Bool.eq_iff_iff,List.contains_iff_mem,decide_eq_true_iff,List.mem_map];constructor
   ·rintro⟨k,hk,e⟩;obtain rfl:k=t:=by omega
    exact hk
   ·exact fun hk=>⟨t,hk,rfl⟩
  rw[List.take_of_length_le (by simp),hb]at he;exact⟨_,he,⟨rfl,rfl,rfl,Nat.le_refl _,fun _ _=>rfl⟩⟩
end Ac
namespace Ac
open Gr (ai)
open Au
section
variable {α:Type}
def upTo(f:Nat->List α)(n:Nat):List α:=(List.range n).flatMap f
theorem M4(f:Nat->List α)(n):upTo f (n+1)=upTo f n++f n:=by
 unfold upTo;rw[List.range_succ,List.flatMap_append];simp
theorem Yo{f:Nat->List α}{n i j}(hi:i<n)(hj):(upTo f n)[(upTo f i).length+j]?=some (f i)[j]:=by
 induction n with
 |zero=>omega
 |succ n ih=>
  rw[M4]
  by_cases h:i<n
  ·have:=ih h;rw[List.getElem?_append_left (List.getElem?_eq_some_iff.1 this).1,this]
  ·obtain rfl:i=n:=by omega
   rw[List.getElem?_append_right (by omega),Nat.add_sub_cancel_left,List.getElem?_eq_getElem hj]
end
section
variable {G:ai} {q:Whole}
noncomputable def cI(G:ai)(q:Whole)(i:Nat):Nat:=(upTo (mz G q) i).length
noncomputable def cT(G:ai)(q:Whole)(i t:Nat):Nat:=cI G q i+(upTo (cellC G q i) t).length
theorem zSz(i):cT G q i (G.terms.length+1)=cI G q (i+1):=by
 unfold cT cI;rw[M4 (mz G q),List.length_append]
 rfl
theorem VG(i t):(cellC G q i t).length=(bh G q i t).length-1:=by
 unfold cellC;rw[List.length_map,List.length_tail]
theorem zS0(i t):cT G q i (t+1)=cT G q i t+((bh G q i t).length-1):=by
 unfold cT;rw[M4,List.length_append,VG,Nat.add_assoc]
theorem zSy:cI G q q.1.length=(jO G q).length:=rfl
theorem VH{i t j}(hi:i<q.1.length)(ht:t<G.terms.length+1){a b}(ha:(bh G q i t)[0]?=some a)(hb:(bh G q i t)[j+1]?=some b):
  (jO G q)[cT G q i t+j]?=some ((i:Int),(t:Int),a,b):=by
 obtain⟨hl,hb⟩:=List.getElem?_eq_some_iff.1 hb;have hj:j<(cellC G q i t).length:=by rw[VG];omega
 have h1:=Yo (f:=cellC G q i) ht hj;obtain⟨h2,h3⟩:=List.getElem?_eq_some_iff.1 h1;have h4:=Yo (f:=mz G q) (n:=q.1.length) (i:=i) (j:=(upTo (cellC G q i) t).length+j) hi h2;unfold cT cI;rw[Nat.add_assoc];show(upTo (mz G q) q.1.length)[_]?= _;rw[h4];have h5:(mz G q i)[(upTo (cellC G q i) t).length+j]=(cellC G q i t)[j]:=h3
 have hf:cm G q i t=a:=by
  unfold cm;rcases hA:bh G q i t with _|⟨x,l⟩
  ·rw[hA]at ha;cases ha
  ·rw[hA]at ha;injection ha with ha
 have h6:(cellC G q i t)[j]?=some ((i:Int),(t:Int),a,b):=by
  unfold cellC;rw[hf,List.getElem?_map,List.getElem?_tail,List.getElem?_eq_getElem hl,hb]
  rfl
 rw[List.getElem?_eq_getElem hj]at h6;rw[h5,h6]
theorem zPd{i t k:Nat}{x}(h:(bh G q i t)[k]?=some x):x.1=1\/x.1=2\/x.1=3:=by
 have hm:=List.mem_of_getElem? h;unfold bh lN iu iB at hm;rw[List.mem_append,List.mem_append]at hm;rcases hm with(h|h)|h
 ·split at h
  ·rw[List.mem_singleton]at h;subst h;exact .inl rfl
  ·cases h
 ·split at h
  ·rw[List.mem_singleton]at h;subst h;exact .inr (.inr rfl)
  ·cases h
 ·obtain⟨k,_,rfl⟩:=List.mem_map.1 h;exact .inr (.inl rfl)
end
