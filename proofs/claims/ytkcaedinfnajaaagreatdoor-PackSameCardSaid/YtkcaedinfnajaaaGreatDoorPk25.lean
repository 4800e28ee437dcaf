/- A part of the proof. -/
import Derived.RangeFuncBound
import Derived.RangeFuncCalls
import Derived.Shelf.SlicesG.SearchI
import Derived.Test.YtkcaedinfnajaaaGreatDoorActsLay
import Derived.Test.YtkcaedinfnajaaaGreatDoorLookLay
import Derived.Test.YtkcaedinfnajaaaGreatDoorPk23
import Derived.Test.YtkcaedinfnajaaaGreatDoorPk20
set_option maxHeartbeats 2000000
set_option maxRecDepth 100000
set_option linter.unusedVariables false
namespace Go.Proofs.YtkcaedinfnajaaaGreatDoor
namespace Rg
open Go.RowKit
open Go.Proofs.YtkcaedinfnajaaaGreatDoor.Sep
variable {P:Program}
theorem zDc{n m l f:Nat}{o:Option Nat}{tmps:Array Value}{assign body:Code}{w:World}{R:Ending->World->Prop}(h:RoundIn Fence.wide n P l f tmps assign body w R):RoundIn {Fence.wide with round:=o} m P l f tmps assign body w R:=
 ⟨h.1,fun c cs _=>h.2 c cs (room_wide _)⟩
theorem zBK{m f:Nat}{o:Option Nat}{args:Array Value}{w:World}{R:Ending->World->Prop}(h:Calls P f args w R):CallsIn {Fence.wide with round:=o} m P f args w R:=
 callsIn_wide.2 h
theorem zJO{n m f:Nat}{o:Option Nat}{args:Array Value}{w:World}{R:Ending->World->Prop}(h:CallsIn Fence.wide n P f args w R):CallsIn {Fence.wide with round:=o} m P f args w R:=zBK (callsIn_wide.1 h)
def Holds(B:Nat)(J:Nat->(Nat->Prop)->World->Prop):Prop:=
 ∀k S T A A',J k S A->Inn S A->Fr T A A'->(∀x,T x->B<=x/\¬S x)->J k S A'
def Or2(S X:Nat->Prop):Nat->Prop:=fun x=>S x\/X x
def Yields(P:Program)(g:Nat)(lb:Array Value)(encs:Nat->Array Value)(N:Nat)(O:Nat->Prop)(w0:World):Prop:=
 ∀(l:Nat) (J Jx:Nat->(Nat->Prop)->World->Prop) (S X:Nat->Prop) (W:World),
  Fr S w0 W->Off S O->Inn S W->Inn X W->Holds W.heap.size J->Holds W.heap.size Jx->
  (∀k S1 W1,k<N->J k S1 W1->Inn S1 W1->YieldAt Fence.wide 0 P l (encs k) W1 fun e W'=>∃S',Inn S' W'/\((e=.returned (.bool true)/\Ext S' S1 W1/\Fr S1 W1 W'/\J (k+1) S' W')\/(e=.returned (.bool false)/\Ext S' (Or2 S1 X) W1/\Fr (Or2 S1 X) W1 W'/\Jx (k+1) S' W')))->
  J 0 S W->
  CallsIn Fence.wide 0 P g (#[.func (.yield l) #[] #[]]++lb) W fun e W'=>(∃v,e=.returned v)/\∃S',Inn S' W'/\((Ext S' S W/\Fr S W W'/\J N S' W')\/(Ext S' (Or2 S X) W/\Fr (Or2 S X) W W'/\∃k,k<=N/\Jx k S' W'))
def zU7(X:Nat->Prop)(I:Nat->(Nat->Prop)->World->Prop)(Ix:Code->Nat->(Nat->Prop)->World->Prop)(k:Nat)(S1:Nat->Prop)(W W2:World):Exit->Act->World->Prop
 | .normal,_,W3=>∃S',Ext S' S1 W/\Fr (fun x=>S1 x\/W.heap.size<=x) W2 W3/\Inn S' W3/\I k S' W3
 | .ret,_,W3=>∃S',Ext S' (Or2 S1 X) W/\Fr (fun x=>Or2 S1 X x\/W.heap.size<=x) W2 W3/\Inn S' W3/\Ix .ret k S' W3
 | .exit id,_,W3=>∃S',Ext S' (Or2 S1 X) W/\Fr (fun x=>Or2 S1 X x\/W.heap.size<=x) W2 W3/\Inn S' W3/\Ix (.exit id) k S' W3
 | .goto t,_,W3=>∃S',Ext S' (Or2 S1 X) W/\Fr (fun x=>Or2 S1 X x\/W.heap.size<=x) W2 W3/\Inn S' W3/\Ix (.goto t) k S' W3
 | .panic _,_,_=>False
 | .outgrown,_,_=>False
theorem zDN(w:World)(l:Nat)(o:Obj):Fr (fun x=>x=l) w (w.putObj l o):=
 ⟨rfl,rfl,rfl,by simp,fun k _ hk=>World.putObj_heap_other hk⟩
section
variable {S1 S':Nat->Prop} {W W1 W2 W3:World} {l:Nat} {o:Obj}
theorem zJY{S2:Nat->Prop}(h0:∀x,S1 x->S2 x)(h1:Fr S1 W W1)(h2:Fr (fun x=>S2 x\/W.heap.size<=x) (W1.putObj l o) W3)(o':Obj):Fr (fun x=>S2 x\/x=l) W (W3.putObj l o'):=
 (((h1.mono (T:=fun x=>S2 x\/x=l) fun k e=> .inl (h0 k e)).trans (zDN W1 l o) fun k e=> .inl (.inr e)).trans h2 fun k e=>e.elim (fun e=> .inl (.inl e)) fun e=> .inr e).trans (zDN W3 l o') fun k e=> .inl (.inr e)
theorem zAV{T:Nat->Prop}(h:Fr T W1 W3){k:Nat}{o:Obj}(hk:W1.heap[k]?=some o)(hT:¬T k):W3.heap[k]?=some o:=
 (h.block k (Array.getElem?_eq_some_iff.1 hk).1 hT).trans hk
theorem zT5(h:Ext S' S1 W):Ext (fun x=>S' x\/x=l) (fun x=>S1 x\/x=l) W:=fun k e=>e.elim (fun e=>(h k e).imp .inl id) fun e=> .inl (.inr e)
end
structure Rcd (S0:Nat->Prop) (w:World) (rec:LoopState->Option Code->Loop) (st:LoopState) (pe:Option Code) (S:Nat->Prop) (W:World):Prop where
 ext:Ext S S0 w
 fr:Fr S0 w W
 loop:W.heap[w.heap.size+1]?=some (.loop (rec st pe))
 rest:W.heap[w.heap.size]?=some (.deferred (some []))
 inn:Inn S W
 nl:¬S (w.heap.size+1)
 nd:¬S w.heap.size
theorem zFD{n N:Nat}{g:Operand}{ps:Array Tmp}{assign body:Code}{Q:Exit->Act->World->Prop}{a:Act}{w:World}{gf:Nat}{lb:Array Value}
  (hg:a.eval g=.func (.func gf) #[] lb) (eg:∀args w,(callFunc gf args).run P w=.ok (.enter gf args) w) {encs:Nat->Array Value} {O:Nat->Prop}
  (hseq:Yields P gf lb encs N O w) (hps:∀k,(encs k).size=ps.size)
  (I:Nat->(Nat->Prop)->World->Prop) (Ix:Code->Nat->(Nat->Prop)->World->Prop) (hI:Holds w.heap.size I) (hIx:∀c,Holds w.heap.size (Ix c)) (S X:Nat->Prop) (hO:Off S O) (hOi:Inn O w) (hS:Inn S w) (hX:Inn X w) (h0:I 0 S w)
  (hround:∀(l k:Nat) (S1:Nat->Prop) (W:World),k<N->w.heap.size<=l->l<W.heap.size->¬S1 l->I k S1 W->Inn S1 W->Ext S1 S w->Fr S w W->
   assign.wpIn (Fence.wide.inRound l) 9 P (Exit.then (fun a1 W1=>Fr S1 W W1/\∀W2,Fr (fun x=>x=l) W1 W2->W2.heap.size=W1.heap.size->body.wpIn (Fence.wide.inRound l) 9 P (zU7 X I Ix (k+1) S1 W W2) a1 W2) (fun _ _ _=>False))
    {tmps:=(ps.zip (encs k)).foldl (fun t (p,v)=>t.setIfInBounds p v) a.tmps,defers:=[]} W)
  (hdone:∀(S':Nat->Prop) (W:World),I N S' W->Inn S' W->Ext S' S w->Fr S w W->W.heap[w.heap.size]?=some (.deferred (some []))->¬S' w.heap.size->Q .normal {a with defers:={target:=.collected w.heap.size,args:=#[]}::a.defers} W)
  (hstop:∀(c:Code) (k:Nat) (S':Nat->Prop) (W:World),k<=N->Ix c k S' W->Inn S' W->Ext S' (Or2 S X) w->Fr (Or2 S X) w W->W.heap[w.heap.size]?=some (.deferred (some []))->¬S' w.heap.size->c.wpIn Fence.wide n P Q {a with defers:={target:=.collected w.heap.size,args:=#[]}::a.defers} W):
  (Code.rangeFunc g ps assign body).wpIn Fence.wide n P Q a w:=by
 refine wpIn_rangeFunc ?_;intro fn _;obtain⟨rec,hrec⟩:∃rec:LoopState->Option Code->Loop,rec=fun st pe=>{state:=st,pending:=pe,fn,tmps:=a.tmps,params:=ps,assign,body,defers:=w.heap.size}:=⟨_,rfl⟩
 obtain⟨We,hWe⟩:∃We,(w.alloc (.deferred (some []))).alloc (.loop (rec .ready none))=We:=⟨_,rfl⟩;have hsz:We.heap.size=w.heap.size+2:=by rw[←hWe];simp
 have hF0:∀T,Fr T w We:=fun T=>by rw[←hWe];exact((Fr.refl T w).alloc _).alloc _
 have hR0:Rcd S w rec .ready none S We:=by
  refine⟨.refl _ _,hF0 _,?_,?_,hS.le (by omega),fun h=>by have:=hS _ h;omega,fun h=>by have:=hS _ h;omega⟩
  ·rw[←hWe];have:=World.alloc_heap_new (w.alloc (.deferred (some []))) (.loop (rec .ready none))
   rwa [World.size_alloc]at this
  ·rw[←hWe];exact(Below.heap_alloc _ _ _ (by simp)).trans (World.alloc_heap_new w _)
 have hI0:I 0 S We:=hI 0 S (fun _=>False) w We h0 hS (hF0 _) fun x h=>h.elim
 refine⟨w.heap.size+1,[{target:=.collected w.heap.size,args:=#[]}],We,{target:=.fn (.func gf) lb,args:=#[.func (.yield (w.heap.size+1)) #[] #[]]},We,gf,
  #[.func (.yield (w.heap.size+1)) #[] #[]]++lb,We,?_,?_,?_,?_,fun h=>by simp[Fence.wide]at h,?_⟩
 ·rw[←hWe,hrec];exact run_enterLoop_outer _ _ _ _ _
 ·simp only[resolve,hg];simp[go_sem]
 ·intro f' _;trivial
 ·simp[invoke,go_sem,eg]
 have hold:∀(Y:Nat->(Nat->Prop)->World->Prop) (S0:Nat->Prop) (st:LoopState) (pe:Option Code),Holds w.heap.size Y->Holds We.heap.size fun k S' W=>∃S1,S'=(fun x=>S1 x\/x=w.heap.size+1)/\Y k S1 W/\Rcd S0 w rec st pe S1 W:=by
  rintro Y S0 st pe hY k S' T A A' ⟨S1,rfl,hx,r⟩ hi hf hT;refine⟨S1,rfl,hY k S1 T A A' hx r.inn hf fun x hx=>⟨by have:=(hT x hx).1;omega,fun h=>(hT x hx).2 (.inl h)⟩,r.ext,r.fr.trans hf (fun x hx=> .inr (by have:=(hT x hx).1;omega)),zAV hf r.loop fun h=>(hT _ h).2 (.inr rfl),zAV hf r.rest fun h=>by have:=(hT _ h).1;omega,r.inn.le hf.size,r.nl,r.nd⟩
 refine(show CallsIn Fence.wide (n-1) P gf _ We _ from zBK (callsIn_wide.1 (hseq (w.heap.size+1)
  (fun k S' W=>∃S1,S'=(fun x=>S1 x\/x=w.heap.size+1)/\I k S1 W/\Rcd S w rec .ready none S1 W)
  (fun k S' W=>∃c S1,S'=(fun x=>S1 x\/x=w.heap.size+1)/\Ix c k S1 W/\Rcd (Or2 S X) w rec .done (some c) S1 W)
  (fun x=>S x\/x=w.heap.size+1) X We ?_ ?_ ?_ (hX.le (by omega)) (hold I S _ _ hI) ?_ ?_ ⟨S,rfl,hI0,hR0⟩))).mono ?_
 ·exact(hF0 _)
 ·rintro k (h|rfl) ho
  ·exact hO k h ho
  ·have:=hOi _ ho;omega
 ·rintro k (h|rfl)
  ·exact hR0.inn k h
  ·omega
 ·rintro k S' T A A' ⟨c,h⟩ hi hf hT;exact⟨c,hold (Ix c) _ _ _ (hIx c) k S' T A A' h hi hf hT⟩
 ·rintro k S' W hk ⟨S1,rfl,hi,r⟩ hin;have hlt:w.heap.size+1<W.heap.size:=(Array.getElem?_eq_some_iff.1 r.loop).1;have hxl:∀x,X x->x<w.heap.size:=hX;have hy:=run_yield (P:=P) (args:=encs k) r.loop (by rw[hrec];exact hps k);rw[hrec]at hy;refine⟨fn,_,assign,body,hy,zDc (o:=none) (roundIn_of_wpIn (F:=Fence.wide) (n:=9) trivial (wpIn_mono (hround (w.heap.size+1) k S1 W hk (by omega) hlt r.nl hi r.inn r.ext r.fr) ?_))⟩;clear hy;rintro e a1 W1 hp;cases e with
  |normal=>
   obtain⟨h1,h2⟩:=hp;have hl1:=zAV h1 r.loop r.nl;refine⟨_,run_beginRound hl1 (by rw[hrec]),?_⟩;have hb:=h2 _ (zDN W1 (w.heap.size+1) (.loop {rec .ready none with state:=.busy})) (by simp);have hl2:(W1.putObj (w.heap.size+1) (.loop {rec .ready none with state:=.busy})).heap[w.heap.size+1]?=some (.loop {rec .ready none with state:=.busy}):=World.putObj_heap_same (Array.getElem?_eq_some_iff.1 hl1).1;refine wpIn_mono hb ?_
   have fin:∀(Y:Nat->(Nat->Prop)->World->Prop) (Sb:Nat->Prop) (jump:Option Code) (W3:World),Holds w.heap.size Y->(∀x,S1 x->Sb x)->(∀x,Sb x->S1 x\/X x)->(∃S',Ext S' Sb W/\Fr (fun x=>Sb x\/W.heap.size<=x) (W1.putObj (w.heap.size+1) (.loop {rec .ready none with state:=.busy})) W3/\Inn S' W3/\Y (k+1) S' W3)->
     ∃W',(Instr.endRound (w.heap.size+1) jump).run P W3=.ok (.bool jump.isNone) W'/\∃S',Ext (fun x=>S' x\/x=w.heap.size+1) (fun x=>Sb x\/x=w.heap.size+1) W/\Fr (fun x=>Sb x\/x=w.heap.size+1) W W'/\Inn (fun x=>S' x\/x=w.heap.size+1) W'/\Y (k+1) S' W'/\
      (∀S0,(∀x,Sb x->S0 x\/w.heap.size<=x)->(∀x,S x->S0 x)->Rcd S0 w rec (if jump.isNone then .ready else .done) jump S' W'):=by
    rintro Y Sb jump W3 hY hb1 hb2 ⟨S',he,hf,hin',hx⟩;have hsl:¬Sb (w.heap.size+1):=fun h=>(hb2 _ h).elim r.nl fun h=>by have:=hxl _ h;omega
    have hsd:¬Sb w.heap.size:=fun h=>(hb2 _ h).elim r.nd fun h=>by have:=hxl _ h;omega
    have hnl:¬S' (w.heap.size+1):=fun h=>(he _ h).elim hsl fun h=>by omega
    have hnd:¬S' w.heap.size:=fun h=>(he _ h).elim hsd fun h=>by omega
    have hl3:=zAV hf hl2 fun h=>h.elim hsl fun h=>by omega
    have hk3:W3.heap[w.heap.size]?=some (.deferred (some [])):=zAV hf ((World.putObj_heap_other (by omega)).trans (zAV h1 r.rest r.nd)) fun h=>h.elim hsd fun h=>by omega
    have hlt3:=(Array.getElem?_eq_some_iff.1 hl3).1;refine⟨_,run_endRound (P:=P) jump hl3,S',zT5 he,zJY hb1 h1 hf _,?_,hY _ _ _ _ _ hx hin' (zDN W3 _ _) (by rintro x rfl;exact⟨by omega,hnl⟩),fun S0 hs0 hs1=>⟨?_,?_,?_,?_,hin'.le (by simp),hnl,hnd⟩⟩
    ·rintro x (h|rfl)
     ·simp only[World.putObj_size];exact hin' x h
     ·simp only[World.putObj_size];exact hlt3
    ·intro x hx2;rcases he x hx2 with h|h
     ·exact hs0 x h
     ·exact .inr (Nat.le_trans r.fr.size h)
    ·refine(r.fr.mono hs1).trans (zJY hb1 h1 hf _) (fun x hx=>hx.elim (fun h=>hs0 x h) fun h=> .inr (by omega))
    ·rw[World.putObj_heap_same hlt3,hrec]
    ·exact(World.putObj_heap_other (by omega)).trans hk3
   have hx1:∀x,S1 x->S x\/w.heap.size<=x:=r.ext;have hx2:∀x,Or2 S1 X x->Or2 S X x\/w.heap.size<=x:=fun x h=>h.elim (fun h=>(r.ext x h).imp .inl id) fun h=> .inl (.inr h)
   have ho1:∀(T:Nat->Prop) (W':World),Ext T (fun x=>Or2 S1 X x\/x=w.heap.size+1) W'->Ext T (Or2 (fun x=>S1 x\/x=w.heap.size+1) X) W':=fun T W' h x hx=>(h x hx).imp (fun h=>h.elim (fun h=>h.elim (fun h=> .inl (.inl h)) .inr) fun h=> .inl (.inr h)) id
   have ho2:∀(A B:World),Fr (fun x=>Or2 S1 X x\/x=w.heap.size+1) A B->Fr (Or2 (fun x=>S1 x\/x=w.heap.size+1) X) A B:=fun A B h=>h.mono fun x h=>h.elim (fun h=>h.elim (fun h=> .inl (.inl h)) .inr) fun h=> .inl (.inr h)
   rintro e a3 W3 hp;cases e with
   |normal=>
    obtain⟨W',hr,S',g1,g2,g3,g4,g5⟩:=fin I S1 none W3 hI (fun _ h=>h) (fun _ h=> .inl h) hp;exact⟨_,_,hr,_,g3,.inl ⟨rfl,g1,g2,S',rfl,g4,g5 S hx1 fun _ h=>h⟩⟩
   |ret=>
    obtain⟨W',hr,S',g1,g2,g3,g4,g5⟩:=fin (Ix .ret) (Or2 S1 X) (some .ret) W3 (hIx _) (fun _ h=> .inl h) (fun _ h=>h) hp;exact⟨_,_,hr,_,g3,.inr ⟨rfl,ho1 _ _ g1,ho2 _ _ g2,.ret,S',rfl,g4,g5 _ hx2 fun _ h=> .inl h⟩⟩
   |exit id=>
    obtain⟨W',hr,S',g1,g2,g3,g4,g5⟩:=fin (Ix (.exit id)) (Or2 S1 X) (some (.exit id)) W3 (hIx _) (fun _ h=> .inl h) (fun _ h=>h) hp;exact⟨_,_,hr,_,g3,.inr ⟨rfl,ho1 _ _ g1,ho2 _ _ g2,.exit id,S',rfl,g4,g5 _ hx2 fun _ h=> .inl h⟩⟩
   |goto t=>
    obtain⟨W',hr,S',g1,g2,g3,g4,g5⟩:=fin (Ix (.goto t)) (Or2 S1 X) (some (.goto t)) W3 (hIx _) (fun _ h=> .inl h) (fun _ h=>h) hp;exact⟨_,_,hr,_,g3,.inr ⟨rfl,ho1 _ _ g1,ho2 _ _ g2,.goto t,S',rfl,g4,g5 _ hx2 fun _ h=> .inl h⟩⟩
   |panic ch=>exact hp.elim
   |outgrown=>exact hp.elim
  |_=>exact hp.elim
 ·rintro e W2 ⟨⟨v,rfl⟩,S',hin,h⟩;rcases h with⟨he,hf,S1,rfl,hi,r⟩|⟨he,hf,k,hk,c,S1,rfl,hi,r⟩
  ·have hr:=run_endLoop (P:=P) r.loop (by rw[hrec];simp);refine⟨none,_,by rw[hrec]at hr;exact hr,hdone S1 _ (hI _ _ _ _ _ hi r.inn (zDN W2 _ _) (by rintro x rfl;exact⟨by omega,r.nl⟩)) (r.inn.le (by simp)) r.ext (r.fr.trans (zDN W2 _ _) fun k e=> .inr (by omega)) ((World.putObj_heap_other (by omega)).trans r.rest) r.nd⟩
  ·have hr:=run_endLoop (P:=P) r.loop (by rw[hrec];simp);refine⟨some c,_,by rw[hrec]at hr;exact hr,hstop c k S1 _ hk (hIx c _ _ _ _ _ hi r.inn (zDN W2 _ _) (by rintro x rfl;exact⟨by omega,r.nl⟩)) (r.inn.le (by simp)) r.ext (r.fr.trans (zDN W2 _ _) fun k e=> .inr (by omega)) ((World.putObj_heap_other (by omega)).trans r.rest) r.nd⟩
structure St (J:Nat->(Nat->Prop)->World->Prop) (S O:Nat->Prop) (We:World) (k:Nat) (S1:Nat->Prop) (W:World):Prop where
 j:J k S1 W
 inn:Inn S1 W
 ext:Ext S1 S We
 fr:Fr S We W
 off:Off S1 O
section
variable {J Jx:Nat->(Nat->Prop)->World->Prop} {S O S1 T:Nat->Prop} {We W W' w0:World} {k:Nat}
theorem St.start(h0:J 0 S We)(hin:Inn S We)(hO:Off S O):St J S O We 0 S We:=⟨h0,hin,.refl _ _,.refl _ _,hO⟩
theorem St.own(h:St J S O We k S1 W)(hJ:Holds We.heap.size J)(hf:Fr T W W')(hT:∀x,T x->We.heap.size<=x/\¬S1 x):St J S O We k S1 W':=
 ⟨hJ _ _ _ _ _ h.j h.inn hf hT,h.inn.le hf.size,h.ext,h.fr.trans hf fun x hx=> .inr (hT x hx).1,h.off⟩
theorem St.went(h:St J S O We k S1 W)(hJ:Holds We.heap.size J)(hb:Below W.heap.size W W'):St J S O We k S1 W':=
 h.own hJ (T:=fun _=>False) (.of_below hb) fun _ hx=>hx.elim
theorem St.alloc(h:St J S O We k S1 W)(hJ:Holds We.heap.size J)(o:Obj):St J S O We k S1 (W.alloc o):=
 h.own hJ (T:=fun _=>False) ((Fr.refl _ W).alloc o) fun _ hx=>hx.elim
def Said(X:Nat->Prop)(J Jx:Nat->(Nat->Prop)->World->Prop)(k:Nat)(S1:Nat->Prop)(W1:World)(e:Ending)(W':World):Prop:=
 ∃S',Inn S' W'/\((e=.returned (.bool true)/\Ext S' S1 W1/\Fr S1 W1 W'/\J (k+1) S' W')\/(e=.returned (.bool false)/\Ext S' (Or2 S1 X) W1/\Fr (Or2 S1 X) W1 W'/\Jx (k+1) S' W'))
structure Fin (Jx:Nat->(Nat->Prop)->World->Prop) (S X:Nat->Prop) (We:World) (k:Nat) (S1:Nat->Prop) (W:World):Prop where
 j:Jx k S1 W
 inn:Inn S1 W
 ext:Ext S1 (Or2 S X) We
 fr:Fr (Or2 S X) We W
theorem Fin.own{X:Nat->Prop}(h:Fin J S X We k S1 W)(hJ:Holds We.heap.size J)(hf:Fr T W W')(hT:∀x,T x->We.heap.size<=x/\¬S1 x):Fin J S X We k S1 W':=
 ⟨hJ _ _ _ _ _ h.j h.inn hf hT,h.inn.le hf.size,h.ext,h.fr.trans hf fun x hx=> .inr (hT x hx).1⟩
theorem St.stop{X:Nat->Prop}(h:St J S O We k S1 W){S':Nat->Prop}(he:Ext S' (Or2 S1 X) W)(hf:Fr (Or2 S1 X) W W')(hi:Inn S' W'){J':Nat->(Nat->Prop)->World->Prop}{k':Nat}(hj:J' k' S' W'):Fin J' S X We k' S' W':=
 ⟨hj,hi,fun x hx=>(he x hx).elim (fun h2=>h2.elim (fun h3=>(h.ext x h3).imp .inl id) fun h3=> .inl (.inr h3)) fun h2=> .inr (Nat.le_trans h.fr.size h2),
  (h.fr.mono (T:=Or2 S X) fun x e=> .inl e).trans hf fun x hx=>hx.elim (fun h3=>(h.ext x h3).imp .inl id) fun h3=> .inl (.inr h3)⟩
theorem St.then(h:St J S O We k S1 W)(hO:Inn O We){S':Nat->Prop}(he:Ext S' S1 W)(hf:Fr S1 W W')(hi:Inn S' W'){J':Nat->(Nat->Prop)->World->Prop}{k':Nat}(hj:J' k' S' W'):St J' S O We k' S' W':=
 ⟨hj,hi,h.ext.trans he h.fr.size,h.fr.trans hf h.ext,h.off.ext he (hO.le h.fr.size)⟩
theorem St.same(h:St J S O We k S1 W)(hO:Inn O We)(hS:Off S O){x:Nat}(hx:O x):W.heap[x]?=We.heap[x]?:=h.fr.block x (hO x hx) fun hs=>hS x hs hx
theorem St.below(h:St J S O We k S1 W)(hS:Off S O){n:Nat}{wD:World}(hb:Below n wD We)(hn:∀x,x<n->O x)(hs:n<=We.heap.size):Below n wD W:=
 ⟨h.fr.os.trans hb.os,h.fr.tape.trans hb.tape,h.fr.output.trans hb.output,Nat.le_trans hb.size h.fr.size,fun x hx=>(h.fr.block x (by omega) fun hs=>hS x hs (hn x hx)).trans (hb.block x hx)⟩
def Mine(We:World)(S1:Nat->Prop)(W:World)(b:Nat)(o:Obj):Prop:=We.heap.size<=b/\¬S1 b/\W.heap[b]?=some o
theorem Mine.lt{o:Obj}{b:Nat}(h:Mine We S1 W b o):b<W.heap.size:=(Array.getElem?_eq_some_iff.1 h.2.2).1
theorem Mine.own{o:Obj}{b:Nat}(h:Mine We S1 W b o)(hf:Fr T W W')(hb:¬T b):Mine We S1 W' b o:=⟨h.1,h.2.1,zAV hf h.2.2 hb⟩
theorem Mine.alloc{o:Obj}{b:Nat}(h:Mine We S1 W b o)(o':Obj):Mine We S1 (W.alloc o') b o:=h.own (T:=fun _=>False) ((Fr.refl _ W).alloc o') id
theorem Mine.went{o:Obj}{b:Nat}(h:Mine We S1 W b o)(hb:Below W.heap.size W W'):Mine We S1 W' b o:=h.own (T:=fun _=>False) (.of_below hb) id
theorem Mine.then{o:Obj}{b:Nat}(h:Mine We S1 W b o){S':Nat->Prop}(he:Ext S' S1 W)(hf:Fr S1 W W'):Mine We S' W' b o:=
 ⟨h.1,fun hs=>(he b hs).elim h.2.1 fun h2=>by have:=h.lt;omega,zAV hf h.2.2 h.2.1⟩
theorem Mine.ranged{o:Obj}{b bf:Nat}(h:Mine We S1 W b o){S':Nat->Prop}(hne:b≠bf)(he:Ext (fun x=>S' x\/x=bf) (fun x=>S1 x\/x=bf) W)(hf:Fr (fun x=>S1 x\/x=bf) W W'):Mine We S' W' b o:=
 ⟨h.1,fun hs=>(he b (.inl hs)).elim (fun h2=>h2.elim h.2.1 hne) fun h2=>by have:=h.lt;omega,zAV hf h.2.2 fun h2=>h2.elim h.2.1 hne⟩
theorem St.new(h:St J S O We k S1 W){o:Obj}:Mine We S1 (W.alloc o) W.heap.size o:=
 ⟨h.fr.size,fun hs=>by have:=h.inn _ hs;omega,World.alloc_heap_new _ _⟩
def mark(D:Nat):Deferred:={target:=.collected D,args:=#[]}
def Marks(We:World)(S1:Nat->Prop)(W:World)(ds:List Deferred):Prop:=∃L:List Nat,ds=L.map mark/\L.Nodup/\∀D∈L,Mine We S1 W D (.deferred (some []))
theorem Marks.nil:Marks We S1 W []:=⟨[],rfl,List.nodup_nil,fun _ h=>by cases h⟩
theorem Marks.own{ds:List Deferred}(h:Marks We S1 W ds)(hf:Fr T W W')(hT:∀x,T x->W.heap.size<=x\/∃o,W.heap[x]?=some o/\o.isCells=true):Marks We S1 W' ds:=by
 obtain⟨L,h1,h2,h3⟩:=h;refine⟨L,h1,h2,fun D hD=>(h3 D hD).own hf fun ht=>?_⟩;rcases hT D ht with h4|⟨o,h4,h5⟩
 ·have:=(h3 D hD).lt;omega
 ·rw[(h3 D hD).2.2]at h4;cases h4;cases h5
theorem Marks.alloc{ds:List Deferred}(h:Marks We S1 W ds)(o:Obj):Marks We S1 (W.alloc o) ds:=h.own (T:=fun _=>False) ((Fr.refl _ W).alloc o) fun _ h=>h.elim
theorem Marks.ranged{ds:List Deferred}{bf D:Nat}(h:Marks We S1 W ds){S':Nat->Prop}{o:Obj}(hbf:W.heap[bf]?=some o)(ho:o.isCells=true)(he:Ext (fun x=>S' x\/x=bf) (fun x=>S1 x\/x=bf) W)(hf:Fr (fun x=>S1 x\/x=bf) W W')
  (hD:W.heap.size<=D) (hD0:W'.heap[D]?=some (.deferred (some []))) (hDS:¬S' D) (hWe:We.heap.size<=D):Marks We S' W' (mark D::ds):=by
 obtain⟨L,h1,h2,h3⟩:=h;refine⟨D::L,by rw[h1];rfl,List.nodup_cons.2 ⟨fun hm=>by have:=(h3 D hm).lt;omega,h2⟩,fun x hx=>?_⟩;rcases List.mem_cons.1 hx with rfl|hx
 ·exact⟨hWe,hDS,hD0⟩
 ·refine(h3 x hx).ranged (fun e=>?_) he hf;subst e;rw[(h3 x hx).2.2]at hbf;cases hbf;cases ho
theorem Marks.rangedX{X:Nat->Prop}{ds:List Deferred}{bf D:Nat}(h:Marks We S1 W ds)(hX:∀x,X x->x<We.heap.size){S':Nat->Prop}{o:Obj}(hbf:W.heap[bf]?=some o)(ho:o.isCells=true)(he:Ext (fun x=>S' x\/x=bf) (Or2 (fun x=>S1 x\/x=bf) X) W)(hf:Fr (Or2 (fun x=>S1 x\/x=bf) X) W W')
  (hD:W.heap.size<=D) (hD0:W'.heap[D]?=some (.deferred (some []))) (hDS:¬S' D) (hWe:We.heap.size<=D):Marks We S' W' (mark D::ds):=by
 obtain⟨L,h1,h2,h3⟩:=h;refine⟨D::L,by rw[h1];rfl,List.nodup_cons.2 ⟨fun hm=>by have:=(h3 D hm).lt;omega,h2⟩,fun x hx=>?_⟩;rcases List.mem_cons.1 hx with rfl|hx
 ·exact⟨hWe,hDS,hD0⟩
 ·have m:=h3 x hx
  have hne:¬Or2 (fun x=>S1 x\/x=bf) X x:=fun h=>h.elim (fun h=>h.elim m.2.1 fun e=>by
   subst e;rw[m.2.2]at hbf;cases hbf
   cases ho) fun h=>by have:=hX x h;have:=m.1;omega
  exact⟨m.1,fun hs=>(he x (.inl hs)).elim hne fun h=>by have:=m.lt;omega,zAV hf m.2.2 hne⟩
theorem zBH{n:Nat}{F:Fence}{fn:Func}{tmps:Array Value}{R:Ending->World->Prop}:∀(L:List Nat) (w:World),L.Nodup->(∀D∈L,w.heap[D]?=some (.deferred (some [])))->
  (∀w',Fr (fun x=>x∈L) w w'->∃v,(results fn tmps).run P w'=.ok v w'/\R (.returned v) w')->LeavesInM F n P fn tmps R (L.map mark) .returning w
 |[],w,_,_,hR=>hR w (.refl _ _)
 |D::L,w,hn,hk,hR=>by
  obtain⟨h1,h2⟩:=List.nodup_cons.1 hn;refine⟨by simp,.inl ⟨D,_,rfl,run_takeDeferred (hk D (List.mem_cons_self ..)),zBH L _ h2 (fun x hx=>?_) fun w' hf=>hR w' ?_⟩⟩
  ·exact(World.putObj_heap_other fun e=>h1 (by rw[←e];exact hx)).trans (hk x (List.mem_cons_of_mem _ hx))
  ·exact((zDN w D _).mono (T:=fun x=>x∈D::L) fun x e=>by subst e;exact List.mem_cons_self ..).trans hf fun x hx=> .inl (List.mem_cons_of_mem _ hx)
end
theorem zAS{w:World}{b k:Nat}{cs:Array Value}{T:TypeId}(h:w.heap[b]?=some (.cells cs T (0,0)))(v:Value):(w.setCell ⟨b,k,none⟩ v).heap[b]?=some (.cells (cs.setIfInBounds k v) T (0,0)):=by
 rw[setCell_eq_setRow w b k cs T (0,0) v h];exact setRow_heap w b cs _ T (0,0) h
theorem zBM(w:World)(b k:Nat)(v:Value):w.grownBy (w.setCell ⟨b,k,none⟩ v) (some b):=
 have h:=(Fr.refl (fun x=>x=b) w).setCell ⟨b,k,none⟩ rfl v
 ⟨h.os,h.tape,h.output,h.size,fun x hx hne=>h.block x hx fun e=>hne (by rw[e])⟩
end Rg
namespace Ac
open Go.RowKit Go.Maps
open Gr (Gram Sh)
open Lk (nivs)
open Au
structure Am where
 h:Sh
 G:Gram
 aS:Option Addr
 nS:Nat
 cS:Nat
 aL:Option Addr
 nL:Nat
 cL:Nat
def amc(m:Am):Array Value:=#[.slice m.h.a1 m.G.terms.length m.h.c1,.slice m.h.a2 m.G.nons.length m.h.c2,.slice m.h.a3 m.G.rules.length m.h.c3,.int .i64 m.G.start,.slice m.aS m.nS m.cS,.slice m.aL m.nL m.cL]
def acv(x:Ac2):Value:=.agg #[.int .i64 x.1,.int .i64 x.2]
theorem zTB(m:Am)(k:Nat)(w:World)(hk:k<=m.G.rules.length):
  Calls Tryz.prog 95 #[.agg (amc m),.int .i64 (k:Int)] w fun e w'=>e=.returned (acv (redA m.G.rules.length k))/\Below w.heap.size w w':=by
 have X:=zVZ (show Below w.heap.size w (w.alloc (.cells (amc m) 81))from(Below.refl _ w).alloc (Nat.le_refl _) _);unfold amc at*
 by_cases h:k=m.G.rules.length
 ·have hi:(k:Int)=(m.G.rules.length:Int):=by omega
  unfold redA;rw[if_pos h];go_enter Tryz.func95,Tryz.ntmps95;go_wp2;exact bodyPost_ret (v:=.agg #[.int .i64 3,.int .i64 0]) (by simp[results,Tryz.results95,go_sem]) rfl ⟨rfl,X.out.alloc X.out.size _⟩
 ·have hi:¬((k:Int)=(m.G.rules.length:Int)):=by omega
  unfold redA;rw[if_neg h];go_enter Tryz.func95,Tryz.ntmps95;go_wp2;exact bodyPost_ret (v:=.agg #[.int .i64 2,.int .i64 (k:Int)]) (by simp[results,Tryz.results95,go_sem]) rfl ⟨rfl,X.out.alloc X.out.size _⟩
def zGw(m:Am)(i t:Nat)(w:World):World:=((w.alloc (.cells (amc m) 81)).alloc (.cells #[.int .i64 (i:Int)] 3)).alloc (.cells #[.int .i64 (t:Int)] 3)
theorem zJ4(m:Am)(i t:Nat)(w:World):
  Calls Tryz.prog 74 #[.agg (amc m),.int .i64 (i:Int),.int .i64 (t:Int)] w fun e w'=>
   e=.returned (.func (.func 93) #[] #[.pointer (some ⟨w.heap.size,0,none⟩),.pointer (some ⟨w.heap.size+1,0,none⟩),.pointer (some ⟨w.heap.size+1+1,0,none⟩)])/\w'=zGw m i t w:=by
 unfold zGw amc;go_enter Tryz.func74,Tryz.ntmps74;go_wp2;go_ret;exact⟨rfl,rfl⟩
theorem zIO(m:Am)(w:World):
  Calls Tryz.prog 42 #[.agg (amc m)] w fun e w'=>
   e=.returned (.func (.func 73) #[] #[.pointer (some ⟨w.heap.size,0,none⟩)])/\w'=w.alloc (.cells (amc m) 81):=by
 unfold amc;go_enter Tryz.func42,Tryz.ntmps42;go_wp2;go_ret;exact⟨rfl,rfl⟩
theorem zTr(a:Option Addr)(c t:Nat)(w:World):
  Calls Tryz.prog 94 #[.slice a 0 c,.int .i64 (t:Int)] w fun e w'=>e=.returned (.tuple #[.int .i64 0,.bool false])/\w'=w:=by
 go_enter Tryz.func94,Tryz.ntmps94;go_wp2;go_loopw [7,8] (fun s7 s8 wr=>s7=.int .i64 0/\s8=.int .i64 0/\wr=w) (fun _ _ _=>0)
 case atStart=>exact⟨rfl,rfl,rfl⟩
 case round=>
  obtain⟨rfl,rfl,rfl⟩:=hrel;go_wp2;go_ret2;exact⟨rfl,rfl⟩
theorem zTq(l:List Nat)(a:Option Addr)(c t:Nat)(w:World)(h:Sep.Reads a (nivs l) w)(hs:l.Pairwise (· < ·))(hl:l.length<=1000000):
  Calls Tryz.prog 94 #[.slice a l.length c,.int .i64 (t:Int)] w fun e w'=>∃p:Int,e=.returned (.tuple #[.int .i64 p,.bool (decide (t∈l))])/\Below w.heap.size w w':=by
 cases l with
 |nil=>
  refine(zTr a c t w).mono ?_;rintro e w' ⟨rfl,rfl⟩;exact⟨0,by simp,.refl _ _⟩
 |cons x l=>
  obtain⟨b,o,e,_⟩:=h 0 (by simp[nivs]);subst e
  have hc:∀j,j<((x::l).map fun k:Nat=>(k:Int)).length->w.cell? ⟨b,o+j,none⟩=some (.int .i64 (((x::l).map fun k:Nat=>(k:Int)).getD j 0)):=by
   intro j hj;rw[List.length_map]at hj;obtain⟨b',o',e,h2⟩:=h j (by simpa[nivs]using hj);simp only[Option.some.injEq,Addr.mk.injEq,and_true]at e;obtain⟨rfl,rfl⟩:=e;rw[h2];rw[List.getD_eq_getElem?_getD,List.getElem?_map,List.getElem?_eq_getElem hj];simp only[nivs,List.getElem_map,Option.map_some,Option.getD_some]
  have hcon:=AnyG.slices_BinarySearch_int Tryz.bsInt b o (x::l).length c ((x::l).map fun k:Nat=>(k:Int)) (t:Int) w (by simp) (by omega) hc (by
   rw[List.take_of_length_le (by simp),List.pairwise_map]
   exact hs.imp fun {a b} hab=>by omega)
  change Calls Tryz.prog 94 _ _ _ at hcon;refine hcon.mono ?_;rintro e w' ⟨he,q,rfl⟩
  have hb:((x::l).map fun k:Nat=>(k:Int)).contains (t:Int)=decide (t∈x::l):=by
   rw[Bool.eq_iff_iff,List.contains_iff_mem,decide_eq_true_iff,List.mem_map];constructor
   ·rintro⟨k,hk,e⟩;obtain rfl:k=t:=by omega
    exact hk
   ·exact fun hk=>⟨t,hk,rfl⟩
  rw[List.take_of_length_le (by simp),hb]at he;exact⟨_,he,⟨rfl,rfl,rfl,Nat.le_refl _,fun _ _=>rfl⟩⟩
end Ac
namespace Lk
open Go.RowKit Go.Maps
open Im (Gw zDp zGX)
abbrev Lkx:=Int×Option Addr×Nat×Nat
def lks(x:Lkx):Value:=.slice x.2.1 x.2.2.1 x.2.2.2
def lc(x:Lkx):List Value:=[.int .i64 x.1,lks x]
theorem zAv(x:Lkx):(lc x).length=2:=rfl
theorem zAW(X:List Lkx):(X.flatMap lc).length=X.length*2:=by
 induction X with
 |nil=>rfl
 |cons x X ih=>
  rw[List.flatMap_cons,List.length_append,ih,zAv,List.length_cons];omega
def LksV(base:Nat)(X:List Lkx)(v:Value)(w:World):Prop:=w.ownsRow base 159 2 v X.length (X.flatMap lc)
def cmpL(x y:Lkx):Int:=Lib.compareInt x.1 y.1
theorem zGa(x y:Lkx):ltOf cmpL x y=decide (x.1<y.1):=by
 unfold ltOf cmpL Lib.compareInt
 by_cases h1:x.1<y.1
 ·simp[h1]
 ·by_cases h2:y.1<x.1<;>simp[h1,h2]
theorem zQm:Go.Sort.SWO (ltOf cmpL) where
 irrefl x:=by
  rw[zGa,decide_eq_false_iff_not];omega
 trans x y z h1 h2:=by
  rw[zGa,decide_eq_true_iff]at*;omega
 ntrans x y z h1 h2:=by
  rw[zGa,decide_eq_false_iff_not]at*;omega
theorem zRy(x y:Lkx)(w:World):
  Calls Tryz.prog 116 #[.agg #[.int .i64 x.1,lks x],.agg #[.int .i64 y.1,lks y]] w fun e w'=>e=.returned (.int .i64 (cmpL x y))/\Gw w w':=by
 have C:=zVZ zDp;unfold cmpL lks;go_enter Tryz.func116,Tryz.ntmps116
 go_wp2_with (first
  |(go_at_call 117;refine(C.out _ _ _).mono ?_;rintro e wn ⟨rfl,rfl⟩)
  |fail)
 go_ret;exact⟨rfl,by first|exact(((Gw.refl w).alloc _).alloc _)|exact(((Gw.refl w).alloc _).alloc _).drew⟩
theorem zMW(d:Array Lkx):Go.Sort.flatK lc 2 d=(d.toList.flatMap lc).toArray:=by
 have hl:=zAW d.toList
 apply Array.ext_getElem?
 intro t
 by_cases ht:t<d.size*2
 ·have hi:t / 2<d.toList.length:=by rw[Array.length_toList];omega
  have h:=Rw.zBQ lc zAv d.toList (t / 2) hi (t % 2) (Nat.mod_lt _ (by omega));rw[show t / 2*2+t % 2=t by omega]at h
  conv=>rhs;rw[List.getElem?_toArray,h]
  unfold Go.Sort.flatK;rw[Array.getElem?_map,Array.getElem?_range,if_pos ht];have hi':t / 2<d.size:=by omega
  rw[Option.map_some,getElem!_pos d (t / 2) hi',Array.getElem_toList];rcases Nat.mod_two_eq_zero_or_one t with e|e<;>rw[e]<;>simp[lc]
 ·conv=>rhs;rw[List.getElem?_toArray]
  rw[Array.getElem?_eq_none (by simp;omega),List.getElem?_eq_none (by rw[hl,Array.length_toList];omega)]
theorem zPP{base:Nat}{X:List Lkx}{g cap:Nat}{w:World}(h:LksV base X (.slice (some ⟨g,0,none⟩) X.length cap) w):Go.Sort.HoldsK lc 2 w g 0 X.toArray/\g<w.heap.size:=by
 rcases h.2 with⟨e,_⟩|⟨g',cap',cur,e,_,hb,_,_,h3,h4⟩
 ·cases e
 ·simp only[Value.slice.injEq,Option.some.injEq,Addr.mk.injEq,and_true,true_and]at e;obtain⟨rfl,rfl⟩:=e;refine⟨?_,(Array.getElem?_eq_some_iff.1 hb).1⟩;unfold Go.Sort.HoldsK;rw[zMW];intro j hj;have hl:=zAW X;simp only[List.size_toArray]at hj;refine⟨?_,by simp[World.frozen?,hb]⟩;have h1:(cur.toList.take (X.length*2))[j]?=(X.flatMap lc)[j]?:=by rw[h4]
  rw[List.getElem?_take_of_lt (by omega)]at h1;simp only[World.cell?,hb,Nat.zero_add];simp only[Option.isSome_none,Bool.false_eq_true,if_false];rw[←Array.getElem?_toList,h1];simp only[List.getElem!_toArray,id];rw[List.getElem?_eq_getElem hj,getElem!_pos _ j hj]
theorem zSh{base:Nat}{X Y:List Lkx}{g cap n:Nat}{w:World}{os:Array Obj}(h:LksV base X (.slice (some ⟨g,0,none⟩) X.length cap) w)(hl:Y.length=X.length):
  LksV base Y (.slice (some ⟨g,0,none⟩) X.length cap) (sortWorldK lc 2 w g 0 n Y.toArray os)/\w.grownBy (sortWorldK lc 2 w g 0 n Y.toArray os) (some g):=by
 unfold sortWorldK Go.Sort.putRowK;rw[zMW];rcases h.2 with⟨e,_⟩|⟨g',cap',cur,e,hbase,hb,h1,h2,h3,h4⟩
 ·cases e
 ·simp only[Value.slice.injEq,Option.some.injEq,Addr.mk.injEq,and_true,true_and]at e;obtain⟨rfl,rfl⟩:=e;have hly:=zAW Y;have hgr:=Im.zHU (w:=w) (g:=g) (n:=n) (os:=os) ((Y.flatMap lc).toArray);refine⟨⟨by rw[hly],.inr ⟨g,cap,_,by rw[hl],hbase,Im.zJc _ hb,by omega,h2,by simp[Go.Sort.putCells,h3],?_⟩⟩,hgr⟩;rw[←hly];exact Im.zGC cur _ (by rw[hly];have:=Nat.mul_le_mul_right 2 h1;omega)
theorem zEn(p:Option Addr)(c:Nat)(fv:Value)(w:World):
  Calls Tryz.prog 168 #[.slice p 0 c,.int .i64 0,.int .i64 0,fv] w fun e w'=>e=.returned (.tuple #[])/\w'=w:=by
 go_enter Tryz.func168,Tryz.ntmps168;go_wp2;refine wp_loop_rounds 1 ?_;rw[rounds_succ];go_wp2;go_end0;exact⟨rfl,rfl⟩
theorem zNj(p:Option Addr)(c:Nat)(lim:Int)(fv:Value)(w:World):
  Calls Tryz.prog 142 #[.slice p 0 c,.int .i64 0,.int .i64 0,.int .i64 lim,fv] w fun e w'=>e=.returned (.tuple #[])/\w'=w:=by
 have hi:=fun W=>zEn p c fv W
 go_enter Tryz.func142,Tryz.ntmps142;go_wp2;refine wp_loop_rounds 1 ?_;rw[rounds_succ];go_wp2_with (go_at_call 168;refine(hi _).mono ?_;rintro e w' ⟨rfl,rfl⟩)
 (try simp only[Exit.inBlock,Exit.then]);refine bodyPost_ret (results_none rfl _ _ _) rfl ?_
 exact⟨rfl,rfl⟩
theorem zLV(p:Option Addr)(c:Nat)(fv:Value)(w:World):
  Calls Tryz.prog 115 #[.slice p 0 c,fv] w fun e w'=>e=.returned (.tuple #[])/\w'=w:=by
 have hp:=fun lim W=>zNj p c lim fv W
 have hl:=zGX;go_enter Tryz.func115,Tryz.ntmps115
 go_wp2_with (first
  |(go_at_call 143;refine(hl _).mono ?_;rintro e w' ⟨rfl,rfl⟩)
  | (go_at_call 142;refine(hp _ _).mono ?_;rintro e w' ⟨rfl,rfl⟩))
 go_end0;exact⟨rfl,rfl⟩
theorem zQi(base:Nat)(X:List Lkx)(a:Option Addr)(c:Nat)(w:World)(h:LksV base X (.slice a X.length c) w)(hl:X.length<=1000000):
  Calls Tryz.prog 115 #[.slice a X.length c,.func (.func 116) #[] #[]] w fun e w'=>e=.returned (.tuple #[])/\∃Y,Y.Perm X/\Y.Pairwise (fun a b=>¬b.1<a.1)/\LksV base Y (.slice a X.length c) w'/\w.grownBy w' (Value.slice a X.length c).ownBlock:=by
 have h':=h;rcases h'.2 with⟨e,h0⟩|⟨g,cap,cur,e,hbase,hb,_⟩
 ·simp only[Value.slice.injEq]at e;obtain⟨rfl,_,rfl⟩:=e;obtain rfl:X=[]:=List.eq_nil_of_length_eq_zero h0;exact(zLV none 0 _ w).mono fun e w' ⟨h1,h2⟩=>⟨h1,[],.nil,.nil,by rw[h2];exact h,by rw[h2];exact⟨rfl,rfl,rfl,Nat.le_refl _,fun _ _ _=>rfl⟩⟩
 ·simp only[Value.slice.injEq,true_and]at e;obtain⟨rfl,rfl⟩:=e;obtain⟨hH,hg⟩:=zPP h;have eg:∀args w,(callFunc 116 args).run Tryz.prog w=.ok (.enter 116 args) w:=enters_of Tryz.func116 (by kernel_rfl) rfl;have hcmp:CmpLays Tryz.prog 116 #[] lc 2 cmpL g 0 X.toArray.size w:=fun m os dk _ x y=>(zRy x y _).mono fun e w' ⟨h1,q,os',h2⟩=>⟨h1,q,os',h2⟩
  have hcon:=AnyQ.slices_SortFunc Tryz.sortLk 2 Tryz.isAgg159 Tryz.sizeOf159 lc zAv (fun x v hv=>by simp[lc,lks]at hv;rcases hv with rfl|rfl<;>rfl) cmpL zQm 116 #[] g 0 c X.toArray w eg hcmp hH hg (by simp;omega);change Calls Tryz.prog 115 _ _ _ at hcon;simp only[List.size_toArray]at hcon;refine hcon.mono ?_;rintro e w' ⟨h1,d',n,os,⟨p1,p2,p3⟩,hs,rfl⟩;simp only[List.size_toArray]at p1 p3
  have hp:d'.toList.Perm X:=by
   have e1:d'.extract 0 X.length=d':=by rw[←p1];simp
   have e2:X.toArray.extract 0 X.length=X.toArray:=by simp
   rw[e1,e2]at p3
   simpa using p3
  have hd:d'=d'.toList.toArray:=by simp
  have hr:=zSh (Y:=d'.toList) (n:=n) (os:=os) h (by rw[Array.length_toList];exact p1);rw[←hd]at hr;refine⟨h1,d'.toList,hp,?_,hr.1,hr.2⟩;rw[List.pairwise_iff_getElem];intro i j hi hj hij;have hi':i<d'.size:=by simpa using hi
  have hj':j<d'.size:=by simpa using hj
  have:=hs i j (Nat.zero_le _) hij (by omega);rw[zGa,decide_eq_false_iff_not,getElem!_pos d' j hj',getElem!_pos d' i hi']at this
  simpa using this
end Lk
namespace Ac
open Gr (Gram)
open Au
section
variable {α:Type}
def upTo(f:Nat->List α)(n:Nat):List α:=(List.range n).flatMap f
theorem zFN(f:Nat->List α)(n:Nat):upTo f (n+1)=upTo f n++f n:=by
 unfold upTo;rw[List.range_succ,List.flatMap_append];simp
theorem zOQ{f:Nat->List α}{n i j:Nat}(hi:i<n)(hj:j<(f i).length):(upTo f n)[(upTo f i).length+j]?=some (f i)[j]:=by
 induction n with
 |zero=>omega
 |succ n ih=>
  rw[zFN]
  by_cases h:i<n
  ·have:=ih h;rw[List.getElem?_append_left (List.getElem?_eq_some_iff.1 this).1,this]
  ·obtain rfl:i=n:=by omega
   rw[List.getElem?_append_right (by omega),Nat.add_sub_cancel_left,List.getElem?_eq_getElem hj]
end
section
variable {G:Gram} {q:Whole}
noncomputable def cI(G:Gram)(q:Whole)(i:Nat):Nat:=(upTo (rowC G q) i).length
noncomputable def cT(G:Gram)(q:Whole)(i t:Nat):Nat:=cI G q i+(upTo (cellC G q i) t).length
theorem zRt(i:Nat):cT G q i (G.terms.length+1)=cI G q (i+1):=by
 unfold cT cI;rw[zFN (rowC G q),List.length_append]
 rfl
theorem zJP(i t:Nat):(cellC G q i t).length=(actL G q i t).length-1:=by
 unfold cellC;rw[List.length_map,List.length_tail]
theorem zRu(i t:Nat):cT G q i (t+1)=cT G q i t+((actL G q i t).length-1):=by
 unfold cT;rw[zFN,List.length_append,zJP,Nat.add_assoc]
theorem zRs:cI G q q.1.length=(zA6 G q).length:=rfl
theorem zJQ{i t j:Nat}(hi:i<q.1.length)(ht:t<G.terms.length+1){a b:Ac2}(ha:(actL G q i t)[0]?=some a)(hb:(actL G q i t)[j+1]?=some b):
  (zA6 G q)[cT G q i t+j]?=some ((i:Int),(t:Int),a,b):=by
 obtain⟨hl,hb⟩:=List.getElem?_eq_some_iff.1 hb;have hj:j<(cellC G q i t).length:=by rw[zJP];omega
 have h1:=zOQ (f:=cellC G q i) ht hj;obtain⟨h2,h3⟩:=List.getElem?_eq_some_iff.1 h1;have h4:=zOQ (f:=rowC G q) (n:=q.1.length) (i:=i) (j:=(upTo (cellC G q i) t).length+j) hi h2;unfold cT cI;rw[Nat.add_assoc];show(upTo (rowC G q) q.1.length)[_]?= _;rw[h4];have h5:(rowC G q i)[(upTo (cellC G q i) t).length+j]=(cellC G q i t)[j]:=h3
 have hf:fstA G q i t=a:=by
  unfold fstA;rcases hA:actL G q i t with _|⟨x,l⟩
  ·rw[hA]at ha;cases ha
  ·rw[hA]at ha;injection ha with ha
 have h6:(cellC G q i t)[j]?=some ((i:Int),(t:Int),a,b):=by
  unfold cellC;rw[hf,List.getElem?_map,List.getElem?_tail,List.getElem?_eq_getElem hl,hb]
  rfl
 rw[List.getElem?_eq_getElem hj]at h6;rw[h5,h6]
theorem zOh{i t k:Nat}{x:Ac2}(h:(actL G q i t)[k]?=some x):x.1=1\/x.1=2\/x.1=3:=by
 have hm:=List.mem_of_getElem? h;unfold actL zBS accL redL at hm;rw[List.mem_append,List.mem_append]at hm;rcases hm with(h|h)|h
 ·split at h
  ·rw[List.mem_singleton]at h;subst h;exact .inl rfl
  ·cases h
 ·split at h
  ·rw[List.mem_singleton]at h;subst h;exact .inr (.inr rfl)
  ·cases h
 ·obtain⟨k,_,rfl⟩:=List.mem_map.1 h;exact .inr (.inl rfl)
end
end Ac
namespace Au
open Go.RowKit Go.Maps
open Gr (Gram Sh Box cell_later step)
open Im
theorem zVG:laidOutB Tryz.prog=true:=by kernel_rfl
theorem rowA:174<Tryz.prog.types.size:=of_decide_eq_true (by kernel_rfl)
theorem lawA:Keyed Tryz.prog 174:=.of_law (deep_law_laid zVG (m:=2) (by omega) rowA (by kernel_rfl) (by rw[Tryz.underlying174]))
theorem kaA:Ka Tryz.prog 174:=
 zVC lawA Tryz.underlying174 Tryz.underlying3 (by kernel_rfl) (by kernel_rfl) (by kernel_rfl) (Tryz.prog.types.size-1) (by have:=rowA;omega)
theorem lawS:Keyed Tryz.prog 9:=string_keyed Tryz.underlying9
theorem zQ2(w:World):(zeroValue 3).run Tryz.prog w=.ok (.int .i64 0) w:=by kernel_rfl
theorem zJd:(Tryz.prog.info? 141).map (fun i=>(i.zero,i.size,i.bytes))=some (some (.slice none 0 0),1,24):=by kernel_rfl
abbrev TM(b n:Nat)(X:Itm->Option Int)(w:World):Prop:=TMap Tryz.prog 174 3 b n X w
abbrev SM(b n:Nat)(L:List ByteArray)(w:World):Prop:=SMap Tryz.prog 9 3 b n L w
def LAt(S:Nat->Prop)(K:List Itm)(u:Value)(w:World):Prop:=∃a c,u=.slice a K.length c/\K.length<=c/\ItsA a K w/\(K≠[]->∀b o,a=some ⟨b,o,none⟩->¬S b)
theorem LAt.fr{S T:Nat->Prop}{K:List Itm}{u:Value}{w w':World}(h:LAt S K u w)(f:Sep.Fr S w w')(x:Sep.Ext T S w):LAt T K u w':=by
 obtain⟨a,c,h1,h2,h3,h4⟩:=h
 by_cases hn:K=[]
 ·subst hn;exact⟨a,c,h1,h2,.nil _ _,fun q=>absurd rfl q⟩
 ·refine⟨a,c,h1,h2,h3.keep fun b o e=>f.block b (zFx h3 hn e) (h4 hn b o e),fun _ b o e q=>?_⟩;have:=zFx h3 hn e;rcases x b q with r|r
  ·exact h4 hn b o e r
  ·omega
theorem LAt.went{S:Nat->Prop}{K:List Itm}{u:Value}{w w':World}(h:LAt S K u w)(hb:Below w.heap.size w w'):LAt S K u w':=h.fr (.of_below hb) (.refl _ _)
structure Parts (W:World) (p:Nat) (S:Nat->Prop) (h:Sh) (G:Gram) (ks:List (List Itm)) (X:Itm->Option Int) (n:Nat) (a:Option Addr) (c bt bn:Nat) (us:List Value) (w:World):Prop where
 below:Below W.heap.size W w
 box:Box p h G w
 items:w.cell? ⟨p,4,none⟩=some (.slice a ks.length c)
 targets:w.cell? ⟨p,5,none⟩=some (.map (some bt))
 numbers:w.cell? ⟨p,6,none⟩=some (.map (some bn))
 free:w.frozen? ⟨p,4,none⟩=false
 row:w.ownsRow W.heap.size 141 1 (.slice a ks.length c) ks.length us
 lists:∀i (h:i<ks.length) (h':i<us.length),LAt S ks[i] us[i] w
 tm:TM bt n X w
 sm:SM bn ks.length (zCL ks) w
 sp:S p
 st:S bt
 sn:S bn
 sr:∀g,(Value.slice a ks.length c).ownBlock=some g->S g
 tp:bt≠p
 np:bn≠p
 tn:bt≠bn
 rp:∀g,(Value.slice a ks.length c).ownBlock=some g->g≠p/\g≠bt/\g≠bn
 low:∀k,S k->W.heap.size<=k
 inn:Sep.Inn S w
theorem Parts.len{W:World}{p:Nat}{S:Nat->Prop}{h:Sh}{G:Gram}{ks:List (List Itm)}{X:Itm->Option Int}{n:Nat}{a:Option Addr}{c bt bn:Nat}{us:List Value}{w:World}(k:Parts W p S h G ks X n a c bt bn us w):us.length=ks.length:=by
 have:=k.row.1;omega
theorem Parts.went{W:World}{p:Nat}{S:Nat->Prop}{h:Sh}{G:Gram}{ks:List (List Itm)}{X:Itm->Option Int}{n:Nat}{a:Option Addr}{c bt bn:Nat}{us:List Value}{w w':World}(k:Parts W p S h G ks X n a c bt bn us w)(hb:Below w.heap.size w w'):Parts W p S h G ks X n a c bt bn us w':=
 ⟨Gr.step k.below hb,k.box.later hb,cell_later hb k.items,cell_later hb k.targets,cell_later hb k.numbers,(World.frozen?_of_block (a:=⟨p,4,none⟩) (hb.block p (k.inn p k.sp))).trans k.free,Sep.zAD k.row fun g hg=>hb.block g (k.inn g (k.sr g hg)),fun i h1 h2=>(k.lists i h1 h2).went hb,k.tm.keep (hb.block _ (k.inn _ k.st)),k.sm.keep (hb.block _ (k.inn _ k.sn)),k.sp,k.st,k.sn,k.sr,k.tp,k.np,k.tn,k.rp,k.low,k.inn.le hb.size⟩
def BAt(W:World)(p:Nat)(S:Nat->Prop)(h:Sh)(G:Gram)(ks:List (List Itm))(X:Itm->Option Int)(n:Nat)(w:World):Prop:=∃a c bt bn us,Parts W p S h G ks X n a c bt bn us w
theorem BAt.went{W:World}{p:Nat}{S:Nat->Prop}{h:Sh}{G:Gram}{ks:List (List Itm)}{X:Itm->Option Int}{n:Nat}{w w':World}(k:BAt W p S h G ks X n w)(hb:Below w.heap.size w w'):BAt W p S h G ks X n w':=by
 obtain⟨a,c,bt,bn,us,k⟩:=k;exact⟨a,c,bt,bn,us,k.went hb⟩
theorem BAt.inn{W:World}{p:Nat}{S:Nat->Prop}{h:Sh}{G:Gram}{ks:List (List Itm)}{X:Itm->Option Int}{n:Nat}{w:World}(k:BAt W p S h G ks X n w):Sep.Inn S w:=by
 obtain⟨a,c,bt,bn,us,k⟩:=k;exact k.inn
theorem BAt.eq{W:World}{p:Nat}{S:Nat->Prop}{h:Sh}{G:Gram}{ks:List (List Itm)}{X Y:Itm->Option Int}{n m:Nat}{w:World}(k:BAt W p S h G ks X n w)(e:∀x,X x=Y x)(hm:n<=m):BAt W p S h G ks Y m w:=by
 obtain⟨a,c,bt,bn,us,k⟩:=k;exact⟨a,c,bt,bn,us,{k with tm:=(k.tm.eq e).mono hm}⟩
theorem Parts.at{W:World}{p:Nat}{S:Nat->Prop}{h:Sh}{G:Gram}{ks:List (List Itm)}{X:Itm->Option Int}{n:Nat}{a:Option Addr}{c bt bn:Nat}{us:List Value}{w:World}(k:Parts W p S h G ks X n a c bt bn us w){i:Nat}(hi:i<ks.length):
  ∃b a' c',a=some ⟨b,0,none⟩/\w.cell? ⟨b,i,none⟩=some (.slice a' ks[i].length c')/\ks[i].length<=c'/\ItsA a' ks[i] w/\(ks[i]≠[]->∀b o,a'=some ⟨b,o,none⟩->¬S b):=by
 have hl:=k.len;obtain⟨a',c',e,h1,h2,h3⟩:=k.lists i hi (by omega);rcases k.row.2 with⟨_,h0⟩|⟨g,cap,cur,he,_⟩
 ·omega
 ·simp only[Value.slice.injEq]at he;obtain⟨rfl,_,_⟩:=he;have:=World.ownsRow.cells k.row (g:=g) rfl i us[i] (List.getElem?_eq_getElem (by omega));rw[WideShapes.add_plain]at this;refine⟨g,a',c',rfl,?_,h1,h2,h3⟩;rw[←e]
  simpa using this
theorem zTG{W:World}{p:Nat}{S:Nat->Prop}{h:Sh}{G:Gram}{ks:List (List Itm)}{X:Itm->Option Int}{n:Nat}{a:Option Addr}{c bt bn:Nat}{us:List Value}{w:World}(k:Parts W p S h G ks X n a c bt bn us w):(Value.slice a ks.length c).ownBlock=none\/(Value.slice a ks.length c).ownBlock≠some bn:=by
 cases hb:(Value.slice a ks.length c).ownBlock with
 |none=>exact .inl rfl
 |some g=>exact .inr fun e=>(k.rp g hb).2.2 (by injection e)
theorem Parts.turn{W:World}{p:Nat}{S:Nat->Prop}{h:Sh}{G:Gram}{ks:List (List Itm)}{X Y:Itm->Option Int}{n m:Nat}{a:Option Addr}{c bt bn:Nat}{us:List Value}{w w':World}(k:Parts W p S h G ks X n a c bt bn us w)(f:Sep.Fr (· =bt) w w')(ht:TM bt m Y w'):Parts W p S h G ks Y m a c bt bn us w':=
 have e (q:Nat) (hq:S q) (hne:q≠bt):w'.heap[q]?=w.heap[q]?:=f.block q (k.inn q hq) hne;have ep:=e p k.sp fun q=>k.tp q.symm
 have F:Sep.Fr S w w':=f.mono fun q hq=>hq▸k.st
 ⟨k.below.trans (F.below k.low k.below.size),⟨(World.cell?_of_block (a:=⟨p,0,none⟩) ep).trans k.box.x0,(World.cell?_of_block (a:=⟨p,1,none⟩) ep).trans k.box.x1,(World.cell?_of_block (a:=⟨p,2,none⟩) ep).trans k.box.x2,(World.cell?_of_block (a:=⟨p,3,none⟩) ep).trans k.box.x3⟩,
  (World.cell?_of_block (a:=⟨p,4,none⟩) ep).trans k.items,(World.cell?_of_block (a:=⟨p,5,none⟩) ep).trans k.targets,(World.cell?_of_block (a:=⟨p,6,none⟩) ep).trans k.numbers,(World.frozen?_of_block (a:=⟨p,4,none⟩) ep).trans k.free,
  Sep.zAD k.row fun g hg=>e g (k.sr g hg) (k.rp g hg).2.1,fun i h1 h2=>(k.lists i h1 h2).fr F (.refl _ _),ht,k.sm.keep (e bn k.sn fun q=>k.tn q.symm),k.sp,k.st,k.sn,k.sr,k.tp,k.np,k.tn,k.rp,k.low,k.inn.le f.size⟩
theorem added{W:World}{p:Nat}{S:Nat->Prop}{h:Sh}{G:Gram}{ks:List (List Itm)}{X:Itm->Option Int}{n:Nat}{a a':Option Addr}{c c' bt bn:Nat}{us:List Value}{w w1 w2:World}{K:List Itm}{u:Value}
  (k:Parts W p S h G ks X n a c bt bn us w) (hu:LAt S K u w)
  (hm1:SM bn (ks.length+1) (zCL ks++[keyB K]) w1) (hg1:w.grownBy w1 (some bn))
  (hown2:w2.ownsRow W.heap.size 141 1 (.slice a' (ks.length+1) c') (ks.length+1) (us++[u]))
  (hg2:(w1.alloc (.cells #[u] 141)).grownBy w2 (Value.slice a ks.length c).ownBlock)
  (hloc:(Value.slice a' (ks.length+1) c').ownBlock=(Value.slice a ks.length c).ownBlock\/(Value.slice a' (ks.length+1) c').ownBlock=some (w1.alloc (.cells #[u] 141)).heap.size):
  ∃T,BAt W p T h G (ks++[K]) X n (w2.setCell ⟨p,4,none⟩ (.slice a' (ks.length+1) c'))/\Sep.Fr S w (w2.setCell ⟨p,4,none⟩ (.slice a' (ks.length+1) c'))/\Sep.Ext T S w:=by
 have hp:p<w.heap.size:=k.inn p k.sp;have hsz1:w.heap.size<=w1.heap.size:=hg1.size;have hsz2:w1.heap.size+1<=w2.heap.size:=by have:=hg2.size;simpa using this
 have hrow:∀g,(Value.slice a ks.length c).ownBlock=some g->S g/\g<w.heap.size/\g≠p/\g≠bt/\g≠bn:=fun g hg=>⟨k.sr g hg,k.inn g (k.sr g hg),k.rp g hg⟩
 have hrow':∀g,(Value.slice a' (ks.length+1) c').ownBlock=some g->((Value.slice a ks.length c).ownBlock=some g\/w.heap.size<=g)/\g<w2.heap.size/\W.heap.size<=g:=fun g hg=>by
  refine⟨?_,(hown2.lt g hg).2,(hown2.lt g hg).1⟩;rcases hloc with e|e
  ·exact .inl (e.symm.trans hg)
  ·have e2:=e.symm.trans hg;injection e2 with e2
   simp at e2;exact .inr (by omega)
 have F2:Sep.Fr S w w2:=Sep.Fr.grown (w:=w1.alloc (.cells #[u] 141)) (Sep.Fr.alloc (Sep.Fr.grown (.refl _ _) hg1 fun q hq=>by injection hq with hq;subst hq;exact .inl k.sn) _) hg2 fun q hq=> .inl (hrow q hq).1
 have F3:Sep.Fr S w (w2.setCell ⟨p,4,none⟩ (.slice a' (ks.length+1) c')):=Sep.Fr.setCell F2 _ k.sp _
 have X3:Sep.Ext (fun q=>S q\/(Value.slice a' (ks.length+1) c').ownBlock=some q) S w:=by
  rintro q (hq|hq)
  ·exact .inl hq
  ·rcases(hrow' q hq).1 with e|e
   ·exact .inl (hrow q e).1
   ·exact .inr e
 have hkeep:∀q,q<w.heap.size->q≠bn->(Value.slice a ks.length c).ownBlock≠some q->w2.heap[q]?=w.heap[q]?:=fun q hq h1 h2=>by
  rw[hg2.block q (by simp;omega) (fun e=>h2 e.symm),Below.heap_alloc _ _ _ (by omega),hg1.block q hq (fun e=>h1 (by injection e))]
 have ep:w2.heap[p]?=w.heap[p]?:=hkeep p hp (fun e=>k.np e.symm) fun e=>(hrow p e).2.2.1 rfl
 have cell:∀j v,j≠4->w.cell? ⟨p,j,none⟩=some v->(w2.setCell ⟨p,4,none⟩ (.slice a' (ks.length+1) c')).cell? ⟨p,j,none⟩=some v:=fun j v hj hc=>by
  rw[World.cell?_setCell_other _ _ _ _ (fun e=>hj (congrArg Addr.off e).symm)];exact(World.cell?_of_block (a:=⟨p,j,none⟩) ep).trans hc
 have hbn:bn<w1.heap.size:=hm1.lt;have hl3:∀q,q≠p->(w2.setCell ⟨p,4,none⟩ (.slice a' (ks.length+1) c')).heap[q]?=w2.heap[q]?:=fun q hq=>Below.heap_setCell _ _ _ _ hq
 refine⟨_,⟨a',c',bt,bn,us++[u],?_⟩,F3,X3⟩;have hel:(ks++[K]).length=ks.length+1:=by simp
 refine⟨k.below.trans (F3.below k.low k.below.size),⟨cell 0 _ (by omega) k.box.x0,cell 1 _ (by omega) k.box.x1,cell 2 _ (by omega) k.box.x2,cell 3 _ (by omega) k.box.x3⟩,?_,cell 5 _ (by omega) k.targets,cell 6 _ (by omega) k.numbers,?_,?_,?_,?_,?_,.inl k.sp,.inl k.st,.inl k.sn,?_,k.tp,k.np,k.tn,?_,?_,?_⟩
 ·rw[hel];exact World.cell?_setCell_same _ _ _ ((World.cell?_of_block (a:=⟨p,4,none⟩) ep).trans k.items)
 ·rw[World.frozen?_setCell];exact(World.frozen?_of_block (a:=⟨p,4,none⟩) ep).trans k.free
 ·rw[hel];refine Sep.zAD hown2 fun g hg=>hl3 g fun e=>?_
  subst e;rcases(hrow' g hg).1 with q|q
  ·exact(hrow g q).2.2.1 rfl
  ·omega
 ·intro i h1 h2;have hul:=k.len
  have key:LAt S (ks++[K])[i] (us++[u])[i] w:=by
   by_cases hi:i<ks.length
   ·rw[List.getElem_append_left hi,List.getElem_append_left (by omega)];exact k.lists i hi (by omega)
   ·rw[List.getElem_append_right (by omega),List.getElem_append_right (by omega)]
    simpa using hu
  exact key.fr F3 X3
 ·refine k.tm.keep ((hl3 bt k.tp).trans (hkeep bt (k.inn _ k.st) k.tn fun e=>(hrow bt e).2.2.2.1 rfl))
 ·rw[hel];have:zCL (ks++[K])=zCL ks++[keyB K]:=by simp[zCL]
  rw[this];refine hm1.keep ((hl3 bn k.np).trans ?_);rw[hg2.block bn (by simp;omega) (fun e=>(hrow bn e.symm).2.2.2.2 rfl),Below.heap_alloc _ _ _ hbn]
 ·rw[hel];exact fun g hg=> .inr hg
 ·rw[hel];intro g hg;rcases(hrow' g hg).1 with q|q
  ·exact(hrow g q).2.2
  ·have h1:=k.inn _ k.st;have h2:=k.inn _ k.sn;exact⟨by omega,by omega,by omega⟩
 ·rintro q (hq|hq)
  ·exact k.low q hq
  ·exact(hrow' q hq).2.2
 ·rintro q (hq|hq)
  ·have:=k.inn q hq;rw[show(w2.setCell ⟨p,4,none⟩ (.slice a' (ks.length+1) c')).heap.size=w2.heap.size by simp[World.setCell]];omega
  ·rw[show(w2.setCell ⟨p,4,none⟩ (.slice a' (ks.length+1) c')).heap.size=w2.heap.size by simp[World.setCell]];exact(hrow' q hq).2.1
end Au
namespace Au
open Go.RowKit Go.Maps
open Gr (Gram Sh cell_later)
open Im
open It (isIn num)
def zHe(ks:List (List Itm))(K:List Itm):List (List Itm):=if K∈ks then ks else ks++[K]
def numK(ks:List (List Itm))(K:List Itm):Nat:=(ks++[K]).idxOf K
theorem zRC{W:World}{p:Nat}{S:Nat->Prop}{h:Sh}{G:Gram}{ks:List (List Itm)}{X:Itm->Option Int}{n:Nat}{a:Option Addr}{c bt bn:Nat}{us:List Value}{w1 w2:World}(k:Parts W p S h G ks X n a c bt bn us w1)(hg:w1.grownBy w2 (some bn)):
  W.heap.size<=w2.heap.size/\∀(w3:World) (o:Obj),(w2.alloc o).grownBy w3 (Value.slice a ks.length c).ownBlock->w3.cell? ⟨p,4,none⟩=some (.slice a ks.length c)/\w3.frozen? ⟨p,4,none⟩=false:=by
 have h1:=k.below.size;have h2:=hg.size;have h3:=k.inn p k.sp;refine⟨by omega,fun w3 o hg3=>?_⟩
 have e:w3.heap[p]?=w1.heap[p]?:=by
  rw[hg3.block p (by simp;omega) (fun e=>(k.rp p e.symm).1 rfl),Below.heap_alloc _ _ _ (by omega),hg.block p h3 (fun e=>k.np (by injection e with e;exact e.symm))]
 exact⟨(World.cell?_of_block (a:=⟨p,4,none⟩) e).trans k.items,(World.frozen?_of_block (a:=⟨p,4,none⟩) e).trans k.free⟩
def zOd(W:World)(r:Nat)(p:Nat)(S:Nat->Prop)(h:Sh)(G:Gram)(ks:List (List Itm))(X:Itm->Option Int)(n:Nat)(w:World)(e:Ending)(w':World):Prop:=
 e=.returned (.int .i64 (r:Int))/\∃T,BAt W p T h G ks X n w'/\Sep.Fr S w w'/\Sep.Ext T S w/\∀v,w.cell? ⟨p,5,none⟩=some v->w'.cell? ⟨p,5,none⟩=some v
theorem zF1{W:World}{p:Nat}{S:Nat->Prop}{h:Sh}{G:Gram}{ks:List (List Itm)}{X:Itm->Option Int}{n:Nat}(w:World)(k:BAt W p S h G ks X n w)(K:List Itm)(a:Option Addr)(c:Nat)(hK:LAt S K (.slice a K.length c) w)
  (hf:Fit3 K) (hs:∀x∈ks,Fit3 x) (hn:ks.Nodup) (hl:ks.length<=1000000) (hL:K.length<=1000000):
  Calls Tryz.prog 81 #[.pointer (some ⟨p,0,none⟩),.slice a K.length c] w (zOd W (numK ks K) p S h G (zHe ks K) X n w):=by
 obtain⟨a0,c0,bt,bn,us,k⟩:=k;have KE:=zVZ (zSe K a c w (by obtain⟨_,_,e,_,h3,_⟩:=hK;simp only[Value.slice.injEq]at e;rw[e.1];exact h3) hf hL);have hsz:(keyB K).size<=maxLen:=by rw[zM1];unfold maxLen;omega
 by_cases hin:K∈ks
 ·have hi:=(zM3 hs hf).2 hin;have e1:zHe ks K=ks:=if_pos hin
  have e2:numK ks K=num (zCL ks) (keyB K):=by
   unfold numK;rw[List.idxOf_append,if_pos hin,zSg hs hf hn hin]
  rw[e1,e2];have k0:=zVZ k;clear hK k hf hs hn hl hL hin e1 e2;go_enter Tryz.func81,Tryz.ntmps81
  go_wp2_with (first
   |(go_at_call 103;refine KE.out.mono ?_;rintro e w1 ⟨rfl,hb⟩;have k1:=zVZ (k0.out.went hb);have HB:=zVZ hb;have q1:=k1.out.items;have q2:=k1.out.numbers;clear hb)
   | (at_lookup;refine zC5 _ rfl _ _ rfl lawS Tryz.underlying9 Tryz.underlying136 Tryz.underlying3 (zQ2 _) bn ks.length (zCL ks) rfl k1.out.sm (keyB K) rfl hsz ?_))
  go_ret;exact⟨rfl,S,⟨a0,c0,bt,bn,us,k1.out⟩,.of_below HB.out,.refl _ _,fun v hv=>cell_later HB.out hv⟩
 ·have hi:isIn (zCL ks) (keyB K)=false:=by
   cases e:isIn (zCL ks) (keyB K)with
   |false=>rfl
   |true=>exact absurd ((zM3 hs hf).1 e) hin
  have e1:zHe ks K=ks++[K]:=if_neg hin
  have e2:numK ks K=ks.length:=by
   unfold numK;rw[List.idxOf_append,if_neg hin];simp
  rw[e1,e2];have hkl:(zCL ks).length=ks.length:=by simp[zCL]
  obtain⟨i0,hj,hz0,hz1,hz2⟩:=info_parts zJd;have k0:=zVZ k;have U0:=zVZ hK;clear hK k hf hs hn hin e1 e2;go_enter Tryz.func81,Tryz.ntmps81
  go_wp2_with (first
   |(go_at_call 103;refine KE.out.mono ?_;rintro e w1 ⟨rfl,hb⟩;have k1:=zVZ (k0.out.went hb);have U1:=zVZ (U0.out.went hb);have HB:=zVZ hb;have q1:=k1.out.items;have q2:=k1.out.numbers;clear hb)
   |(at_lookup;refine zC5 _ rfl _ _ rfl lawS Tryz.underlying9 Tryz.underlying136 Tryz.underlying3 (zQ2 _) bn ks.length (zCL ks) rfl k1.out.sm (keyB K) rfl hsz ?_)
   |(at_mapUpdate;refine zFQ _ rfl _ _ _ rfl lawS Tryz.underlying9 Tryz.underlying136 Tryz.underlying3 bn ks.length (zCL ks) rfl k1.out.sm (by unfold maxLen;omega) (keyB K) rfl hsz hi _ rfl (by rw[hkl]) (by omega) ?_;intro w2 hm2 hg2;have M2:=zVZ hm2;have G2:=zVZ hg2;have ep:=hg2.block p (k1.out.inn p k1.out.sp) (fun e=>k1.out.np (by injection e with e;exact e.symm));have q3:=(World.cell?_of_block (a:=⟨p,4,none⟩) ep).trans k1.out.items;have f3:=(World.frozen?_of_block (a:=⟨p,4,none⟩) ep).trans k1.out.free;have R3:=zVZ (k1.out.row.kept hg2 (zTG k1.out));have hw2:=(zRC k1.out hg2).1;have KP:=zVZ (zRC k1.out hg2).2;clear hm2 hg2 ep)
   | (at_builtin;refine wpList_append_own_at _ rfl _ _ 137 rfl W.heap.size 141 i0 (.slice none 0 0) 1 24 Tryz.underlying137 hj hz0 hz1 hz2 rfl (by decide) _ _ _ rfl (R3.out.alloc _) ⟨w2.heap.size,0,none⟩ 1 1 [.slice a K.length c] rfl rfl (cell_one_new _ _ _) (by simp[Value.oneCell']) (by unfold maxLen;omega) (by omega) (by simp;omega) ?_;intro v' w3 hown3 hg3 _ hloc;obtain⟨q5,f5⟩:=KP.out _ _ hg3;obtain⟨a',c',rfl⟩:=Sep.zA2 hown3;have O3:=zVZ hown3;have G3:=zVZ hg3;have HL:=zVZ hloc;clear hown3 hg3 hloc))
  go_ret;obtain⟨T,t1,t2,t3⟩:=added k1.out U1.out M2.out G2.out O3.out G3.out HL.out;refine⟨rfl,T,t1,(Sep.Fr.of_below HB.out).trans t2 (.refl _ _),t3.at HB.out.size,fun v hv=>?_⟩;rw[World.cell?_setCell_other _ _ _ _ (fun q=>by have:=congrArg Addr.off q;simp at this)];have hp1:=k1.out.inn p k1.out.sp;have h2:=G2.out.size
  have e:w3.heap[p]?=w1.heap[p]?:=by
   rw[G3.out.block p (by simp;omega) (fun e=>(k1.out.rp p e.symm).1 rfl),Below.heap_alloc _ _ _ (by omega),G2.out.block p hp1 (fun e=>k1.out.np (by injection e with e;exact e.symm))]
  exact(World.cell?_of_block (a:=⟨p,5,none⟩) e).trans (cell_later HB.out hv)
end Au
namespace Au
open Go.RowKit Go.Maps
open Gr (Gram Sh gv GAt checkN boxed zAC zAR)
open Im
theorem zGb(n k:Nat)(h:k<n)(z:Value):(madeCells #[z] n)[k]?=some z:=by
 simp[madeCells,h,Nat.mod_one]
theorem zNH(n:Nat)(hn:n<=10000)(w:World):
  (Instr.makeSlice 137 (.int .i64 (n:Int)) (.int .i64 (n:Int))).run Tryz.prog w=.ok (.slice (some ⟨w.heap.size,0,none⟩) n n) (w.alloc (.cells (madeCells #[.slice none 0 0] n) 141)):=
 run_make_row' 137 141 (.slice none 0 0) 24 Tryz.underlying137 zJd rfl .i64 .i64 n (by omega) (by omega) w
theorem zR8(n m:Nat)(w w':World)(hm:w.heap.size<m)(hw:m<=w'.heap.size)(hb:w'.heap[w.heap.size]?=(w.alloc (.cells (madeCells #[.slice none 0 0] n) 141)).heap[w.heap.size]?):Fam 154 w.heap.size m n (fun _=>[]) (fun _=> .slice none 0 0) w':=by
 have B:=Rw.Bk.new w (madeCells #[.slice none 0 0] n) 141 _ rfl;exact⟨fun s hs=>(World.cell?_of_block (a:=⟨w.heap.size,s,none⟩) hb).trans (B.cell (zGb n s hs _)),fun j=>(World.frozen?_of_block (a:=⟨w.heap.size,j,none⟩) hb).trans (B.free j),fun s _=>ItsV.nil _ _ _,fun s r _ _ _ g e=>by simp[Value.ownBlock]at e,hm,hw⟩
def zOZ(Y:List Itm)(w:World)(e:Ending)(w':World):Prop:=∃a c,e=.returned (.slice a Y.length c)/\ItsV 154 w.heap.size Y (.slice a Y.length c) w'/\Below w.heap.size w w'
theorem zKh(h:Sh)(G:Gram)(hv:checkN G=0)(L:List Itm)(a:Option Addr)(c:Nat)(w:World)(k:GAt h G w)(kl:ItsA a L w)(hw:∀x∈L,W64 x)(hL:L.length<=1000000):
  Calls Tryz.prog 130 #[gv h G,.slice a L.length c] w (zOZ (clL G L) w):=by
 refine(zMG h G L a c w k kl hw hL).mono ?_;rintro e w' ⟨Y,a',c',rfl,h1,h2,h3⟩;have:Y=clL G L:=(h1.iff (Q:=Clo G L) fun x=>⟨fun q=>q.2,fun q=>⟨hv,q⟩⟩).uniq (zFb G L);subst this;exact⟨a',c',rfl,h2,h3⟩
def zOg(F:Nat->List Itm)(n:Nat)(w:World)(e:Ending)(w':World):Prop:=∃b c,e=.returned (.slice (some ⟨b,0,none⟩) n c)/\w.heap.size<=b/\b<w'.heap.size/\
 (∀s,s<n->∃a c',w'.cell? ⟨b,s,none⟩=some (.slice a (F s).length c')/\(F s).length<=c'/\ItsA a (F s) w'/\∀b' o,a=some ⟨b',o,none⟩->w.heap.size<=b')/\Below w.heap.size w w'
theorem zMT{G:Gram}{c:List Itm}{k:Nat}(hk:k<c.length)(hb:behB G c[k]=true){s:Nat}(hs:behV G c[k]=(s:Int))(r:Nat):
  upd (fun r:Nat=>zA9 G (c.take k) (r:Int)) s (zA9 G (c.take k) (s:Int)++[(c[k].1,c[k].2+1)]) r=zA9 G (c.take (k+1)) (r:Int):=by
 rw[List.take_succ_eq_append_getElem hk,zGB]
 by_cases e:r=s
 ·subst e;rw[upd_same,if_pos ⟨hb,hs⟩]
 ·rw[zAB e,if_neg,List.append_nil];rintro⟨_,q⟩;omega
theorem zPB{G:Gram}{c:List Itm}{k:Nat}(hk:k<c.length)(hb:behB G c[k]=false)(r:Int):zA9 G (c.take k) r=zA9 G (c.take (k+1)) r:=by
 rw[List.take_succ_eq_append_getElem hk,zGB,if_neg,List.append_nil];rintro⟨q,_⟩;rw[hb]at q;cases q
structure StR (W w w2:World) (b n:Nat) (a:Option Addr) (G:Gram) (C:List Itm) (k:Nat) (D:Nat->Value) (wr:World):Prop where
 fam:Fam 154 b w2.heap.size n (fun s=>zA9 G (C.take k) (s:Int)) D wr
 fr:Sep.Fr (· =b) w2 wr
theorem StR.below{W w w2 wr:World}{b n k:Nat}{a:Option Addr}{G:Gram}{C:List Itm}{D:Nat->Value}(h:StR W w w2 b n a G C k D wr)(hb:w.heap.size<=b)(h2:Below w.heap.size w w2):Below w.heap.size w wr:=
 h2.trans (h.fr.below (fun i hi=>by omega) h2.size)
theorem StR.went{W w w2 wr wx:World}{b n k:Nat}{a:Option Addr}{G:Gram}{C:List Itm}{D:Nat->Value}(h:StR W w w2 b n a G C k D wr)(hb:Below wr.heap.size wr wx):StR W w w2 b n a G C k D wx:=
 ⟨h.fam.went hb,Rw.zDr h.fr hb⟩
structure BoxC (wb wc:World) (rb:Nat) (rr:List Int) (ra:Option Addr) (rc:Nat):Prop where
 below:Below wb.heap.size wb wc
 cell:wc.cell? ⟨rb,1,none⟩=some (.slice ra rr.length rc)
 at_:∀d (hd:d<rr.length),rr[d]≠0->∃b2 o2,ra=some ⟨b2,o2,none⟩/\wc.cell? ⟨b2,o2+d,none⟩=some (.int .i64 rr[d])
theorem zHx{ra:Option Addr}{rr:List Int}{w:World}(h:Sep.Reads ra (Gr.ivs rr) w)(d:Nat)(hd:d<rr.length):∃b2 o2,ra=some ⟨b2,o2,none⟩/\w.cell? ⟨b2,o2+d,none⟩=some (.int .i64 rr[d]):=by
 obtain⟨b2,o2,e,hc⟩:=h d (by simpa[Gr.ivs]using hd);exact⟨b2,o2,e,by simpa[Gr.ivs,Gr.iv]using hc⟩
theorem zRp{wb v1:World}{rl:Int}{rr:List Int}{ra:Option Addr}{rc:Nat}(T:TypeId)(h:Below wb.heap.size wb v1)(r:Sep.Reads ra (Gr.ivs rr) v1):BoxC wb (v1.alloc (.cells #[.int .i64 rl,.slice ra rr.length rc] T)) v1.heap.size rr ra rc:=
 ⟨Gr.step h (boxed _ _),zAC rfl rfl,fun d hd _=>by
  obtain⟨b2,o2,e,hc⟩:=zHx r d hd
  exact⟨b2,o2,e,zAR hc⟩⟩
theorem zRq{wb v1:World}{rl:Int}{rr:List Int}{ra:Option Addr}{rc:Nat}(h:Below wb.heap.size wb v1)(r:Sep.Reads ra (Gr.ivs rr) v1)(z0:v1.cell? ⟨wb.heap.size,0,none⟩=some (.int .i64 0))(z1:v1.cell? ⟨wb.heap.size,1,none⟩=some (.slice none 0 0)):
  BoxC wb ((v1.setCell ⟨wb.heap.size,0,none⟩ (.int .i64 rl)).setCell ⟨wb.heap.size,1,none⟩ (.slice ra rr.length rc)) wb.heap.size rr ra rc:=
 ⟨(h.setCell (Nat.le_refl _) _).setCell (Nat.le_refl _) _,World.cell?_setCell_same _ _ _ (by rw[World.cell?_setCell_other _ _ _ _ (fun q=>by have:=congrArg Addr.off q;simp at this)];exact z1),fun d hd hne=>by
  obtain⟨b2,o2,e,hc⟩:=zHx r d hd;refine⟨b2,o2,e,?_⟩
  rw[World.cell?_setCell_other _ _ _ _ (fun q=>by
   rw[←q]at hc;rw[hc]at z1
   cases z1),World.cell?_setCell_other _ _ _ _ (fun q=>by
   rw[←q,z0]at hc;injection hc with hc
   injection hc with _ hc
   exact hne hc.symm)]
  exact hc⟩
