/- A part of the proof. -/
import Derived.RangeFuncBound
import Derived.RangeFuncCalls
import Derived.Shelf.SlicesG.SearchI
import Derived.Test.YtnfbjlainpenaaaGreatDoorActsLay
import Derived.Test.YtnfbjlainpenaaaGreatDoorLookLay
import Derived.Test.YtnfbjlainpenaaaGreatDoorPk26
set_option maxHeartbeats 2000000
set_option maxRecDepth 100000
set_option linter.unusedVariables false
namespace Go.Proofs.YtnfbjlainpenaaaGreatDoor
namespace Rg
open Go.RowKit
open Go.Proofs.YtnfbjlainpenaaaGreatDoor.Sep
variable {P : Program}
theorem zC0 {n m l f : Nat} {o : Option Nat} {tmps : Array Value} {assign body : Code} {w : World} {R : Ending -> World -> Prop} (h : RoundIn Fence.wide n P l f tmps assign body w R) : RoundIn { Fence.wide with round := o } m P l f tmps assign body w R :=
 ⟨h.1, fun c cs _ => h.2 c cs (room_wide _)⟩
theorem zA6 {m f : Nat} {o : Option Nat} {args : Array Value} {w : World} {R : Ending -> World -> Prop} (h : Calls P f args w R) : CallsIn { Fence.wide with round := o } m P f args w R :=
 callsIn_wide.2 h
theorem zHf {n m f : Nat} {o : Option Nat} {args : Array Value} {w : World} {R : Ending -> World -> Prop} (h : CallsIn Fence.wide n P f args w R) : CallsIn { Fence.wide with round := o } m P f args w R := zA6 (callsIn_wide.1 h)
def Holds (B : Nat) (J : Nat -> (Nat -> Prop) -> World -> Prop) : Prop :=
 ∀ k S T A A', J k S A -> Inn S A -> Fr T A A' -> (∀ x, T x -> B <= x /\ ¬ S x) -> J k S A'
def Or2 (S X : Nat -> Prop) : Nat -> Prop := fun x => S x \/ X x
def Yields (P : Program) (g : Nat) (lb : Array Value) (encs : Nat -> Array Value) (N : Nat) (O : Nat -> Prop) (w0 : World) : Prop :=
 ∀ (l : Nat) (J Jx : Nat -> (Nat -> Prop) -> World -> Prop) (S X : Nat -> Prop) (W : World),
  Fr S w0 W -> Off S O -> Inn S W -> Inn X W -> Holds W.heap.size J -> Holds W.heap.size Jx ->
  (∀ k S1 W1, k < N -> J k S1 W1 -> Inn S1 W1 -> YieldAt Fence.wide 0 P l (encs k) W1 fun e W' => ∃ S', Inn S' W' /\ ((e = .returned (.bool true) /\ Ext S' S1 W1 /\ Fr S1 W1 W' /\ J (k + 1) S' W') \/ (e = .returned (.bool false) /\ Ext S' (Or2 S1 X) W1 /\ Fr (Or2 S1 X) W1 W' /\ Jx (k + 1) S' W'))) ->
  J 0 S W ->
  CallsIn Fence.wide 0 P g (#[.func (.yield l) #[] #[]] ++ lb) W fun e W' => (∃ v, e = .returned v) /\ ∃ S', Inn S' W' /\ ((Ext S' S W /\ Fr S W W' /\ J N S' W') \/ (Ext S' (Or2 S X) W /\ Fr (Or2 S X) W W' /\ ∃ k, k <= N /\ Jx k S' W'))
def zSG (X : Nat -> Prop) (I : Nat -> (Nat -> Prop) -> World -> Prop) (Ix : Code -> Nat -> (Nat -> Prop) -> World -> Prop) (k : Nat) (S1 : Nat -> Prop) (W W2 : World) : Exit -> Act -> World -> Prop
 | .normal, _, W3 => ∃ S', Ext S' S1 W /\ Fr (fun x => S1 x \/ W.heap.size <= x) W2 W3 /\ Inn S' W3 /\ I k S' W3
 | .ret, _, W3 => ∃ S', Ext S' (Or2 S1 X) W /\ Fr (fun x => Or2 S1 X x \/ W.heap.size <= x) W2 W3 /\ Inn S' W3 /\ Ix .ret k S' W3
 | .exit id, _, W3 => ∃ S', Ext S' (Or2 S1 X) W /\ Fr (fun x => Or2 S1 X x \/ W.heap.size <= x) W2 W3 /\ Inn S' W3 /\ Ix (.exit id) k S' W3
 | .goto t, _, W3 => ∃ S', Ext S' (Or2 S1 X) W /\ Fr (fun x => Or2 S1 X x \/ W.heap.size <= x) W2 W3 /\ Inn S' W3 /\ Ix (.goto t) k S' W3
 | .panic _, _, _ => False
 | .outgrown, _, _ => False
theorem zCo (w : World) (l : Nat) (o : Obj) : Fr (fun x => x = l) w (w.putObj l o) :=
 ⟨rfl, rfl, rfl, by simp, fun k _ hk => World.putObj_heap_other hk⟩
section
variable {S1 S' : Nat -> Prop} {W W1 W2 W3 : World} {l : Nat} {o : Obj}
theorem zHo {S2 : Nat -> Prop} (h0 : ∀ x, S1 x -> S2 x) (h1 : Fr S1 W W1) (h2 : Fr (fun x => S2 x \/ W.heap.size <= x) (W1.putObj l o) W3) (o' : Obj) : Fr (fun x => S2 x \/ x = l) W (W3.putObj l o') :=
 (((h1.mono (T := fun x => S2 x \/ x = l) fun k e => .inl (h0 k e)).trans (zCo W1 l o) fun k e => .inl (.inr e)).trans h2 fun k e => e.elim (fun e => .inl (.inl e)) fun e => .inr e).trans (zCo W3 l o') fun k e => .inl (.inr e)
theorem zAO {T : Nat -> Prop} (h : Fr T W1 W3) {k : Nat} {o : Obj} (hk : W1.heap[k]? = some o) (hT : ¬ T k) : W3.heap[k]? = some o :=
 (h.block k (Array.getElem?_eq_some_iff.1 hk).1 hT).trans hk
theorem zRN (h : Ext S' S1 W) : Ext (fun x => S' x \/ x = l) (fun x => S1 x \/ x = l) W := fun k e => e.elim (fun e => (h k e).imp .inl id) fun e => .inl (.inr e)
end
structure Rcd (S0 : Nat -> Prop) (w : World) (rec : LoopState -> Option Code -> Loop) (st : LoopState) (pe : Option Code) (S : Nat -> Prop) (W : World) : Prop where
 ext : Ext S S0 w
 fr : Fr S0 w W
 loop : W.heap[w.heap.size + 1]? = some (.loop (rec st pe))
 rest : W.heap[w.heap.size]? = some (.deferred (some []))
 inn : Inn S W
 nl : ¬ S (w.heap.size + 1)
 nd : ¬ S w.heap.size
theorem zCC {n N : Nat} {g : Operand} {ps : Array Tmp} {assign body : Code} {Q : Exit -> Act -> World -> Prop} {a : Act} {w : World} {gf : Nat} {lb : Array Value}
  (hg : a.eval g = .func (.func gf) #[] lb) (eg : ∀ args w, (callFunc gf args).run P w = .ok (.enter gf args) w) {encs : Nat -> Array Value} {O : Nat -> Prop}
  (hseq : Yields P gf lb encs N O w) (hps : ∀ k, (encs k).size = ps.size)
  (I : Nat -> (Nat -> Prop) -> World -> Prop) (Ix : Code -> Nat -> (Nat -> Prop) -> World -> Prop) (hI : Holds w.heap.size I) (hIx : ∀ c, Holds w.heap.size (Ix c)) (S X : Nat -> Prop) (hO : Off S O) (hOi : Inn O w) (hS : Inn S w) (hX : Inn X w) (h0 : I 0 S w)
  (hround : ∀ (l k : Nat) (S1 : Nat -> Prop) (W : World), k < N -> w.heap.size <= l -> l < W.heap.size -> ¬ S1 l -> I k S1 W -> Inn S1 W -> Ext S1 S w -> Fr S w W ->
   assign.wpIn (Fence.wide.inRound l) 9 P (Exit.then (fun a1 W1 => Fr S1 W W1 /\ ∀ W2, Fr (fun x => x = l) W1 W2 -> W2.heap.size = W1.heap.size -> body.wpIn (Fence.wide.inRound l) 9 P (zSG X I Ix (k + 1) S1 W W2) a1 W2) (fun _ _ _ => False))
    { tmps := (ps.zip (encs k)).foldl (fun t (p, v) => t.setIfInBounds p v) a.tmps, defers := [] } W)
  (hdone : ∀ (S' : Nat -> Prop) (W : World), I N S' W -> Inn S' W -> Ext S' S w -> Fr S w W -> W.heap[w.heap.size]? = some (.deferred (some [])) -> ¬ S' w.heap.size -> Q .normal { a with defers := { target := .collected w.heap.size, args := #[] } :: a.defers } W)
  (hstop : ∀ (c : Code) (k : Nat) (S' : Nat -> Prop) (W : World), k <= N -> Ix c k S' W -> Inn S' W -> Ext S' (Or2 S X) w -> Fr (Or2 S X) w W -> W.heap[w.heap.size]? = some (.deferred (some [])) -> ¬ S' w.heap.size -> c.wpIn Fence.wide n P Q { a with defers := { target := .collected w.heap.size, args := #[] } :: a.defers } W) :
  (Code.rangeFunc g ps assign body).wpIn Fence.wide n P Q a w := by
 refine wpIn_rangeFunc ?_
 intro fn _
 obtain ⟨rec, hrec⟩ : ∃ rec : LoopState -> Option Code -> Loop, rec = fun st pe => { state := st, pending := pe, fn, tmps := a.tmps, params := ps, assign, body, defers := w.heap.size } := ⟨_, rfl⟩
 obtain ⟨We, hWe⟩ : ∃ We, (w.alloc (.deferred (some []))).alloc (.loop (rec .ready none)) = We := ⟨_, rfl⟩
 have hsz : We.heap.size = w.heap.size + 2 := by rw [← hWe]; simp
 have hF0 : ∀ T, Fr T w We := fun T => by rw [← hWe]; exact ((Fr.refl T w).alloc _).alloc _
 have hR0 : Rcd S w rec .ready none S We := by
  refine ⟨.refl _ _, hF0 _, ?_, ?_, hS.le (by omega), fun h => by have := hS _ h; omega, fun h => by have := hS _ h; omega⟩
  ·rw [← hWe]
   have := World.alloc_heap_new (w.alloc (.deferred (some []))) (.loop (rec .ready none))
   rwa [World.size_alloc] at this
  ·rw [← hWe]
   exact (Below.heap_alloc _ _ _ (by simp)).trans (World.alloc_heap_new w _)
 have hI0 : I 0 S We := hI 0 S (fun _ => False) w We h0 hS (hF0 _) fun x h => h.elim
 refine ⟨w.heap.size + 1, [{ target := .collected w.heap.size, args := #[] }], We, { target := .fn (.func gf) lb, args := #[.func (.yield (w.heap.size + 1)) #[] #[]] }, We, gf,
  #[.func (.yield (w.heap.size + 1)) #[] #[]] ++ lb, We, ?_, ?_, ?_, ?_, fun h => by simp [Fence.wide] at h, ?_⟩
 ·rw [← hWe, hrec]
  exact run_enterLoop_outer _ _ _ _ _
 ·simp only [resolve, hg]
  simp [go_sem]
 ·intro f' _
  trivial
 ·simp [invoke, go_sem, eg]
 have hold : ∀ (Y : Nat -> (Nat -> Prop) -> World -> Prop) (S0 : Nat -> Prop) (st : LoopState) (pe : Option Code), Holds w.heap.size Y -> Holds We.heap.size fun k S' W => ∃ S1, S' = (fun x => S1 x \/ x = w.heap.size + 1) /\ Y k S1 W /\ Rcd S0 w rec st pe S1 W := by
  rintro Y S0 st pe hY k S' T A A' ⟨S1, rfl, hx, r⟩ hi hf hT
  refine ⟨S1, rfl, hY k S1 T A A' hx r.inn hf fun x hx => ⟨by have := (hT x hx).1; omega, fun h => (hT x hx).2 (.inl h)⟩, r.ext, r.fr.trans hf (fun x hx => .inr (by have := (hT x hx).1; omega)), zAO hf r.loop fun h => (hT _ h).2 (.inr rfl), zAO hf r.rest fun h => by have := (hT _ h).1; omega, r.inn.le hf.size, r.nl, r.nd⟩
 refine (show CallsIn Fence.wide (n - 1) P gf _ We _ from zA6 (callsIn_wide.1 (hseq (w.heap.size + 1)
  (fun k S' W => ∃ S1, S' = (fun x => S1 x \/ x = w.heap.size + 1) /\ I k S1 W /\ Rcd S w rec .ready none S1 W)
  (fun k S' W => ∃ c S1, S' = (fun x => S1 x \/ x = w.heap.size + 1) /\ Ix c k S1 W /\ Rcd (Or2 S X) w rec .done (some c) S1 W)
  (fun x => S x \/ x = w.heap.size + 1) X We ?_ ?_ ?_ (hX.le (by omega)) (hold I S _ _ hI) ?_ ?_ ⟨S, rfl, hI0, hR0⟩))).mono ?_
 ·exact (hF0 _)
 ·rintro k (h | rfl) ho
  ·exact hO k h ho
  ·have := hOi _ ho
   omega
 ·rintro k (h | rfl)
  ·exact hR0.inn k h
  ·omega
 ·rintro k S' T A A' ⟨c, h⟩ hi hf hT
  exact ⟨c, hold (Ix c) _ _ _ (hIx c) k S' T A A' h hi hf hT⟩
 ·rintro k S' W hk ⟨S1, rfl, hi, r⟩ hin
  have hlt : w.heap.size + 1 < W.heap.size := (Array.getElem?_eq_some_iff.1 r.loop).1
  have hxl : ∀ x, X x -> x < w.heap.size := hX
  have hy := run_yield (P := P) (args := encs k) r.loop (by rw [hrec]; exact hps k)
  rw [hrec] at hy
  refine ⟨fn, _, assign, body, hy, zC0 (o := none) (roundIn_of_wpIn (F := Fence.wide) (n := 9) trivial (wpIn_mono (hround (w.heap.size + 1) k S1 W hk (by omega) hlt r.nl hi r.inn r.ext r.fr) ?_))⟩
  clear hy
  rintro e a1 W1 hp
  cases e with
  | normal =>
   obtain ⟨h1, h2⟩ := hp
   have hl1 := zAO h1 r.loop r.nl
   refine ⟨_, run_beginRound hl1 (by rw [hrec]), ?_⟩
   have hb := h2 _ (zCo W1 (w.heap.size + 1) (.loop { rec .ready none with state := .busy })) (by simp)
   have hl2 : (W1.putObj (w.heap.size + 1) (.loop { rec .ready none with state := .busy })).heap[w.heap.size + 1]? = some (.loop { rec .ready none with state := .busy }) := World.putObj_heap_same (Array.getElem?_eq_some_iff.1 hl1).1
   refine wpIn_mono hb ?_
   have fin : ∀ (Y : Nat -> (Nat -> Prop) -> World -> Prop) (Sb : Nat -> Prop) (jump : Option Code) (W3 : World), Holds w.heap.size Y -> (∀ x, S1 x -> Sb x) -> (∀ x, Sb x -> S1 x \/ X x) -> (∃ S', Ext S' Sb W /\ Fr (fun x => Sb x \/ W.heap.size <= x) (W1.putObj (w.heap.size + 1) (.loop { rec .ready none with state := .busy })) W3 /\ Inn S' W3 /\ Y (k + 1) S' W3) ->
     ∃ W', (Instr.endRound (w.heap.size + 1) jump).run P W3 = .ok (.bool jump.isNone) W' /\ ∃ S', Ext (fun x => S' x \/ x = w.heap.size + 1) (fun x => Sb x \/ x = w.heap.size + 1) W /\ Fr (fun x => Sb x \/ x = w.heap.size + 1) W W' /\ Inn (fun x => S' x \/ x = w.heap.size + 1) W' /\ Y (k + 1) S' W' /\
      (∀ S0, (∀ x, Sb x -> S0 x \/ w.heap.size <= x) -> (∀ x, S x -> S0 x) -> Rcd S0 w rec (if jump.isNone then .ready else .done) jump S' W') := by
    rintro Y Sb jump W3 hY hb1 hb2 ⟨S', he, hf, hin', hx⟩
    have hsl : ¬ Sb (w.heap.size + 1) := fun h => (hb2 _ h).elim r.nl fun h => by have := hxl _ h; omega
    have hsd : ¬ Sb w.heap.size := fun h => (hb2 _ h).elim r.nd fun h => by have := hxl _ h; omega
    have hnl : ¬ S' (w.heap.size + 1) := fun h => (he _ h).elim hsl fun h => by omega
    have hnd : ¬ S' w.heap.size := fun h => (he _ h).elim hsd fun h => by omega
    have hl3 := zAO hf hl2 fun h => h.elim hsl fun h => by omega
    have hk3 : W3.heap[w.heap.size]? = some (.deferred (some [])) := zAO hf ((World.putObj_heap_other (by omega)).trans (zAO h1 r.rest r.nd)) fun h => h.elim hsd fun h => by omega
    have hlt3 := (Array.getElem?_eq_some_iff.1 hl3).1
    refine ⟨_, run_endRound (P := P) jump hl3, S', zRN he, zHo hb1 h1 hf _, ?_, hY _ _ _ _ _ hx hin' (zCo W3 _ _) (by rintro x rfl; exact ⟨by omega, hnl⟩), fun S0 hs0 hs1 => ⟨?_, ?_, ?_, ?_, hin'.le (by simp), hnl, hnd⟩⟩
    ·rintro x (h | rfl)
     ·simp only [World.putObj_size]
      exact hin' x h
     ·simp only [World.putObj_size]
      exact hlt3
    ·intro x hx2
     rcases he x hx2 with h | h
     ·exact hs0 x h
     ·exact .inr (Nat.le_trans r.fr.size h)
    ·refine (r.fr.mono hs1).trans (zHo hb1 h1 hf _) (fun x hx => hx.elim (fun h => hs0 x h) fun h => .inr (by omega))
    ·rw [World.putObj_heap_same hlt3, hrec]
    ·exact (World.putObj_heap_other (by omega)).trans hk3
   have hx1 : ∀ x, S1 x -> S x \/ w.heap.size <= x := r.ext
   have hx2 : ∀ x, Or2 S1 X x -> Or2 S X x \/ w.heap.size <= x := fun x h => h.elim (fun h => (r.ext x h).imp .inl id) fun h => .inl (.inr h)
   have ho1 : ∀ (T : Nat -> Prop) (W' : World), Ext T (fun x => Or2 S1 X x \/ x = w.heap.size + 1) W' -> Ext T (Or2 (fun x => S1 x \/ x = w.heap.size + 1) X) W' := fun T W' h x hx => (h x hx).imp (fun h => h.elim (fun h => h.elim (fun h => .inl (.inl h)) .inr) fun h => .inl (.inr h)) id
   have ho2 : ∀ (A B : World), Fr (fun x => Or2 S1 X x \/ x = w.heap.size + 1) A B -> Fr (Or2 (fun x => S1 x \/ x = w.heap.size + 1) X) A B := fun A B h => h.mono fun x h => h.elim (fun h => h.elim (fun h => .inl (.inl h)) .inr) fun h => .inl (.inr h)
   rintro e a3 W3 hp
   cases e with
   | normal =>
    obtain ⟨W', hr, S', g1, g2, g3, g4, g5⟩ := fin I S1 none W3 hI (fun _ h => h) (fun _ h => .inl h) hp
    exact ⟨_, _, hr, _, g3, .inl ⟨rfl, g1, g2, S', rfl, g4, g5 S hx1 fun _ h => h⟩⟩
   | ret =>
    obtain ⟨W', hr, S', g1, g2, g3, g4, g5⟩ := fin (Ix .ret) (Or2 S1 X) (some .ret) W3 (hIx _) (fun _ h => .inl h) (fun _ h => h) hp
    exact ⟨_, _, hr, _, g3, .inr ⟨rfl, ho1 _ _ g1, ho2 _ _ g2, .ret, S', rfl, g4, g5 _ hx2 fun _ h => .inl h⟩⟩
   | exit id =>
    obtain ⟨W', hr, S', g1, g2, g3, g4, g5⟩ := fin (Ix (.exit id)) (Or2 S1 X) (some (.exit id)) W3 (hIx _) (fun _ h => .inl h) (fun _ h => h) hp
    exact ⟨_, _, hr, _, g3, .inr ⟨rfl, ho1 _ _ g1, ho2 _ _ g2, .exit id, S', rfl, g4, g5 _ hx2 fun _ h => .inl h⟩⟩
   | goto t =>
    obtain ⟨W', hr, S', g1, g2, g3, g4, g5⟩ := fin (Ix (.goto t)) (Or2 S1 X) (some (.goto t)) W3 (hIx _) (fun _ h => .inl h) (fun _ h => h) hp
    exact ⟨_, _, hr, _, g3, .inr ⟨rfl, ho1 _ _ g1, ho2 _ _ g2, .goto t, S', rfl, g4, g5 _ hx2 fun _ h => .inl h⟩⟩
   | panic ch => exact hp.elim
   | outgrown => exact hp.elim
  | _ => exact hp.elim
 ·rintro e W2 ⟨⟨v, rfl⟩, S', hin, h⟩
  rcases h with ⟨he, hf, S1, rfl, hi, r⟩ | ⟨he, hf, k, hk, c, S1, rfl, hi, r⟩
  ·have hr := run_endLoop (P := P) r.loop (by rw [hrec]; simp)
   refine ⟨none, _, by rw [hrec] at hr; exact hr, hdone S1 _ (hI _ _ _ _ _ hi r.inn (zCo W2 _ _) (by rintro x rfl; exact ⟨by omega, r.nl⟩)) (r.inn.le (by simp)) r.ext (r.fr.trans (zCo W2 _ _) fun k e => .inr (by omega)) ((World.putObj_heap_other (by omega)).trans r.rest) r.nd⟩
  ·have hr := run_endLoop (P := P) r.loop (by rw [hrec]; simp)
   refine ⟨some c, _, by rw [hrec] at hr; exact hr, hstop c k S1 _ hk (hIx c _ _ _ _ _ hi r.inn (zCo W2 _ _) (by rintro x rfl; exact ⟨by omega, r.nl⟩)) (r.inn.le (by simp)) r.ext (r.fr.trans (zCo W2 _ _) fun k e => .inr (by omega)) ((World.putObj_heap_other (by omega)).trans r.rest) r.nd⟩
structure St (J : Nat -> (Nat -> Prop) -> World -> Prop) (S O : Nat -> Prop) (We : World) (k : Nat) (S1 : Nat -> Prop) (W : World) : Prop where
 j : J k S1 W
 inn : Inn S1 W
 ext : Ext S1 S We
 fr : Fr S We W
 off : Off S1 O
section
variable {J Jx : Nat -> (Nat -> Prop) -> World -> Prop} {S O S1 T : Nat -> Prop} {We W W' w0 : World} {k : Nat}
theorem St.start (h0 : J 0 S We) (hin : Inn S We) (hO : Off S O) : St J S O We 0 S We := ⟨h0, hin, .refl _ _, .refl _ _, hO⟩
theorem St.own (h : St J S O We k S1 W) (hJ : Holds We.heap.size J) (hf : Fr T W W') (hT : ∀ x, T x -> We.heap.size <= x /\ ¬ S1 x) : St J S O We k S1 W' :=
 ⟨hJ _ _ _ _ _ h.j h.inn hf hT, h.inn.le hf.size, h.ext, h.fr.trans hf fun x hx => .inr (hT x hx).1, h.off⟩
theorem St.went (h : St J S O We k S1 W) (hJ : Holds We.heap.size J) (hb : Below W.heap.size W W') : St J S O We k S1 W' :=
 h.own hJ (T := fun _ => False) (.of_below hb) fun _ hx => hx.elim
theorem St.alloc (h : St J S O We k S1 W) (hJ : Holds We.heap.size J) (o : Obj) : St J S O We k S1 (W.alloc o) :=
 h.own hJ (T := fun _ => False) ((Fr.refl _ W).alloc o) fun _ hx => hx.elim
theorem St.drew (h : St J S O We k S1 W) (hJ : Holds We.heap.size J) : St J S O We k S1 W.drew :=
 h.own hJ (T := fun _ => False) ((Fr.refl _ W).drew) fun _ hx => hx.elim
def Said (X : Nat -> Prop) (J Jx : Nat -> (Nat -> Prop) -> World -> Prop) (k : Nat) (S1 : Nat -> Prop) (W1 : World) (e : Ending) (W' : World) : Prop :=
 ∃ S', Inn S' W' /\ ((e = .returned (.bool true) /\ Ext S' S1 W1 /\ Fr S1 W1 W' /\ J (k + 1) S' W') \/ (e = .returned (.bool false) /\ Ext S' (Or2 S1 X) W1 /\ Fr (Or2 S1 X) W1 W' /\ Jx (k + 1) S' W'))
structure Fin (Jx : Nat -> (Nat -> Prop) -> World -> Prop) (S X : Nat -> Prop) (We : World) (k : Nat) (S1 : Nat -> Prop) (W : World) : Prop where
 j : Jx k S1 W
 inn : Inn S1 W
 ext : Ext S1 (Or2 S X) We
 fr : Fr (Or2 S X) We W
theorem Fin.own {X : Nat -> Prop} (h : Fin J S X We k S1 W) (hJ : Holds We.heap.size J) (hf : Fr T W W') (hT : ∀ x, T x -> We.heap.size <= x /\ ¬ S1 x) : Fin J S X We k S1 W' :=
 ⟨hJ _ _ _ _ _ h.j h.inn hf hT, h.inn.le hf.size, h.ext, h.fr.trans hf fun x hx => .inr (hT x hx).1⟩
theorem St.stop {X : Nat -> Prop} (h : St J S O We k S1 W) {S' : Nat -> Prop} (he : Ext S' (Or2 S1 X) W) (hf : Fr (Or2 S1 X) W W') (hi : Inn S' W') {J' : Nat -> (Nat -> Prop) -> World -> Prop} {k' : Nat} (hj : J' k' S' W') : Fin J' S X We k' S' W' :=
 ⟨hj, hi, fun x hx => (he x hx).elim (fun h2 => h2.elim (fun h3 => (h.ext x h3).imp .inl id) fun h3 => .inl (.inr h3)) fun h2 => .inr (Nat.le_trans h.fr.size h2),
  (h.fr.mono (T := Or2 S X) fun x e => .inl e).trans hf fun x hx => hx.elim (fun h3 => (h.ext x h3).imp .inl id) fun h3 => .inl (.inr h3)⟩
theorem St.then (h : St J S O We k S1 W) (hO : Inn O We) {S' : Nat -> Prop} (he : Ext S' S1 W) (hf : Fr S1 W W') (hi : Inn S' W') {J' : Nat -> (Nat -> Prop) -> World -> Prop} {k' : Nat} (hj : J' k' S' W') : St J' S O We k' S' W' :=
 ⟨hj, hi, h.ext.trans he h.fr.size, h.fr.trans hf h.ext, h.off.ext he (hO.le h.fr.size)⟩
theorem St.same (h : St J S O We k S1 W) (hO : Inn O We) (hS : Off S O) {x : Nat} (hx : O x) : W.heap[x]? = We.heap[x]? := h.fr.block x (hO x hx) fun hs => hS x hs hx
theorem St.below (h : St J S O We k S1 W) (hS : Off S O) {n : Nat} {wD : World} (hb : Below n wD We) (hn : ∀ x, x < n -> O x) (hs : n <= We.heap.size) : Below n wD W :=
 ⟨h.fr.os.trans hb.os, h.fr.tape.trans hb.tape, h.fr.output.trans hb.output, Nat.le_trans hb.size h.fr.size, fun x hx => (h.fr.block x (by omega) fun hs => hS x hs (hn x hx)).trans (hb.block x hx)⟩
def Mine (We : World) (S1 : Nat -> Prop) (W : World) (b : Nat) (o : Obj) : Prop := We.heap.size <= b /\ ¬ S1 b /\ W.heap[b]? = some o
theorem Mine.lt {o : Obj} {b : Nat} (h : Mine We S1 W b o) : b < W.heap.size := (Array.getElem?_eq_some_iff.1 h.2.2).1
theorem Mine.own {o : Obj} {b : Nat} (h : Mine We S1 W b o) (hf : Fr T W W') (hb : ¬ T b) : Mine We S1 W' b o := ⟨h.1, h.2.1, zAO hf h.2.2 hb⟩
theorem Mine.alloc {o : Obj} {b : Nat} (h : Mine We S1 W b o) (o' : Obj) : Mine We S1 (W.alloc o') b o := h.own (T := fun _ => False) ((Fr.refl _ W).alloc o') id
theorem Mine.went {o : Obj} {b : Nat} (h : Mine We S1 W b o) (hb : Below W.heap.size W W') : Mine We S1 W' b o := h.own (T := fun _ => False) (.of_below hb) id
theorem Mine.then {o : Obj} {b : Nat} (h : Mine We S1 W b o) {S' : Nat -> Prop} (he : Ext S' S1 W) (hf : Fr S1 W W') : Mine We S' W' b o :=
 ⟨h.1, fun hs => (he b hs).elim h.2.1 fun h2 => by have := h.lt; omega, zAO hf h.2.2 h.2.1⟩
theorem Mine.ranged {o : Obj} {b bf : Nat} (h : Mine We S1 W b o) {S' : Nat -> Prop} (hne : b ≠ bf) (he : Ext (fun x => S' x \/ x = bf) (fun x => S1 x \/ x = bf) W) (hf : Fr (fun x => S1 x \/ x = bf) W W') : Mine We S' W' b o :=
 ⟨h.1, fun hs => (he b (.inl hs)).elim (fun h2 => h2.elim h.2.1 hne) fun h2 => by have := h.lt; omega, zAO hf h.2.2 fun h2 => h2.elim h.2.1 hne⟩
theorem St.new (h : St J S O We k S1 W) {o : Obj} : Mine We S1 (W.alloc o) W.heap.size o :=
 ⟨h.fr.size, fun hs => by have := h.inn _ hs; omega, World.alloc_heap_new _ _⟩
def mark (D : Nat) : Deferred := { target := .collected D, args := #[] }
def Marks (We : World) (S1 : Nat -> Prop) (W : World) (ds : List Deferred) : Prop := ∃ L : List Nat, ds = L.map mark /\ L.Nodup /\ ∀ D ∈ L, Mine We S1 W D (.deferred (some []))
theorem Marks.nil : Marks We S1 W [] := ⟨[], rfl, List.nodup_nil, fun _ h => by cases h⟩
theorem Marks.own {ds : List Deferred} (h : Marks We S1 W ds) (hf : Fr T W W') (hT : ∀ x, T x -> W.heap.size <= x \/ ∃ o, W.heap[x]? = some o /\ o.isCells = true) : Marks We S1 W' ds := by
 obtain ⟨L, h1, h2, h3⟩ := h
 refine ⟨L, h1, h2, fun D hD => (h3 D hD).own hf fun ht => ?_⟩
 rcases hT D ht with h4 | ⟨o, h4, h5⟩
 ·have := (h3 D hD).lt
  omega
 ·rw [(h3 D hD).2.2] at h4
  cases h4
  cases h5
theorem Marks.alloc {ds : List Deferred} (h : Marks We S1 W ds) (o : Obj) : Marks We S1 (W.alloc o) ds := h.own (T := fun _ => False) ((Fr.refl _ W).alloc o) fun _ h => h.elim
theorem Marks.ranged {ds : List Deferred} {bf D : Nat} (h : Marks We S1 W ds) {S' : Nat -> Prop} {o : Obj} (hbf : W.heap[bf]? = some o) (ho : o.isCells = true) (he : Ext (fun x => S' x \/ x = bf) (fun x => S1 x \/ x = bf) W) (hf : Fr (fun x => S1 x \/ x = bf) W W')
  (hD : W.heap.size <= D) (hD0 : W'.heap[D]? = some (.deferred (some []))) (hDS : ¬ S' D) (hWe : We.heap.size <= D) : Marks We S' W' (mark D :: ds) := by
 obtain ⟨L, h1, h2, h3⟩ := h
 refine ⟨D :: L, by rw [h1]; rfl, List.nodup_cons.2 ⟨fun hm => by have := (h3 D hm).lt; omega, h2⟩, fun x hx => ?_⟩
 rcases List.mem_cons.1 hx with rfl | hx
 ·exact ⟨hWe, hDS, hD0⟩
 ·refine (h3 x hx).ranged (fun e => ?_) he hf
  subst e
  rw [(h3 x hx).2.2] at hbf
  cases hbf
  cases ho
theorem Marks.rangedX {X : Nat -> Prop} {ds : List Deferred} {bf D : Nat} (h : Marks We S1 W ds) (hX : ∀ x, X x -> x < We.heap.size) {S' : Nat -> Prop} {o : Obj} (hbf : W.heap[bf]? = some o) (ho : o.isCells = true) (he : Ext (fun x => S' x \/ x = bf) (Or2 (fun x => S1 x \/ x = bf) X) W) (hf : Fr (Or2 (fun x => S1 x \/ x = bf) X) W W')
  (hD : W.heap.size <= D) (hD0 : W'.heap[D]? = some (.deferred (some []))) (hDS : ¬ S' D) (hWe : We.heap.size <= D) : Marks We S' W' (mark D :: ds) := by
 obtain ⟨L, h1, h2, h3⟩ := h
 refine ⟨D :: L, by rw [h1]; rfl, List.nodup_cons.2 ⟨fun hm => by have := (h3 D hm).lt; omega, h2⟩, fun x hx => ?_⟩
 rcases List.mem_cons.1 hx with rfl | hx
 ·exact ⟨hWe, hDS, hD0⟩
 ·have m := h3 x hx
  have hne : ¬ Or2 (fun x => S1 x \/ x = bf) X x := fun h => h.elim (fun h => h.elim m.2.1 fun e => by
   subst e
   rw [m.2.2] at hbf
   cases hbf
   cases ho) fun h => by have := hX x h; have := m.1; omega
  exact ⟨m.1, fun hs => (he x (.inl hs)).elim hne fun h => by have := m.lt; omega, zAO hf m.2.2 hne⟩
theorem zAi {n : Nat} {F : Fence} {fn : Func} {tmps : Array Value} {R : Ending -> World -> Prop} : ∀ (L : List Nat) (w : World), L.Nodup -> (∀ D ∈ L, w.heap[D]? = some (.deferred (some []))) ->
  (∀ w', Fr (fun x => x ∈ L) w w' -> ∃ v, (results fn tmps).run P w' = .ok v w' /\ R (.returned v) w') -> LeavesInM F n P fn tmps R (L.map mark) .returning w
 | [], w, _, _, hR => hR w (.refl _ _)
 | D :: L, w, hn, hk, hR => by
  obtain ⟨h1, h2⟩ := List.nodup_cons.1 hn
  refine ⟨by simp, .inl ⟨D, _, rfl, run_takeDeferred (hk D (List.mem_cons_self ..)), zAi L _ h2 (fun x hx => ?_) fun w' hf => hR w' ?_⟩⟩
  ·exact (World.putObj_heap_other fun e => h1 (by rw [← e]; exact hx)).trans (hk x (List.mem_cons_of_mem _ hx))
  ·exact ((zCo w D _).mono (T := fun x => x ∈ D :: L) fun x e => by subst e; exact List.mem_cons_self ..).trans hf fun x hx => .inl (List.mem_cons_of_mem _ hx)
end
theorem zAP {w : World} {b k : Nat} {cs : Array Value} {T : TypeId} (h : w.heap[b]? = some (.cells cs T (0, 0))) (v : Value) : (w.setCell ⟨b, k, none⟩ v).heap[b]? = some (.cells (cs.setIfInBounds k v) T (0, 0)) := by
 rw [setCell_eq_setRow w b k cs T (0, 0) v h]
 exact setRow_heap w b cs _ T (0, 0) h
theorem zAv (w : World) (b k : Nat) (v : Value) : w.grownBy (w.setCell ⟨b, k, none⟩ v) (some b) :=
 have h := (Fr.refl (fun x => x = b) w).setCell ⟨b, k, none⟩ rfl v
 ⟨h.os, h.tape, h.output, h.size, fun x hx hne => h.block x hx fun e => hne (by rw [e])⟩
end Rg
namespace Ac
open Go.RowKit Go.Maps
open Gr (Gram Sh)
open Lk (nivs)
open Au
structure Am where
 h : Sh
 G : Gram
 aS : Option Addr
 nS : Nat
 cS : Nat
 aL : Option Addr
 nL : Nat
 cL : Nat
def amc (m : Am) : Array Value := #[.slice m.h.a1 m.G.terms.length m.h.c1, .slice m.h.a2 m.G.nons.length m.h.c2, .slice m.h.a3 m.G.rules.length m.h.c3, .int .i64 m.G.start, .slice m.aS m.nS m.cS, .slice m.aL m.nL m.cL]
def acv (x : Ac2) : Value := .agg #[.int .i64 x.1, .int .i64 x.2]
theorem zQf (m : Am) (k : Nat) (w : World) (hk : k <= m.G.rules.length) :
  Calls Tryz.prog 95 #[.agg (amc m), .int .i64 (k : Int)] w fun e w' => e = .returned (acv (redA m.G.rules.length k)) /\ Below w.heap.size w w' := by
 have X := zSg (show Below w.heap.size w (w.alloc (.cells (amc m) 69)) from (Below.refl _ w).alloc (Nat.le_refl _) _)
 unfold amc at *
 by_cases h : k = m.G.rules.length
 ·have hi : (k : Int) = (m.G.rules.length : Int) := by omega
  unfold redA
  rw [if_pos h]
  go_enter Tryz.func95, Tryz.ntmps95
  go_wp2
  exact bodyPost_ret (v := .agg #[.int .i64 3, .int .i64 0]) (by simp [results, Tryz.results95, go_sem]) rfl ⟨rfl, X.out.alloc X.out.size _⟩
 ·have hi : ¬ ((k : Int) = (m.G.rules.length : Int)) := by omega
  unfold redA
  rw [if_neg h]
  go_enter Tryz.func95, Tryz.ntmps95
  go_wp2
  exact bodyPost_ret (v := .agg #[.int .i64 2, .int .i64 (k : Int)]) (by simp [results, Tryz.results95, go_sem]) rfl ⟨rfl, X.out.alloc X.out.size _⟩
def zFc (m : Am) (i t : Nat) (w : World) : World := ((w.alloc (.cells (amc m) 69)).alloc (.cells #[.int .i64 (i : Int)] 3)).alloc (.cells #[.int .i64 (t : Int)] 3)
theorem zH9 (m : Am) (i t : Nat) (w : World) :
  Calls Tryz.prog 57 #[.agg (amc m), .int .i64 (i : Int), .int .i64 (t : Int)] w fun e w' =>
   e = .returned (.func (.func 93) #[] #[.pointer (some ⟨w.heap.size, 0, none⟩), .pointer (some ⟨w.heap.size + 1, 0, none⟩), .pointer (some ⟨w.heap.size + 1 + 1, 0, none⟩)]) /\ w' = zFc m i t w := by
 unfold zFc amc
 go_enter Tryz.func57, Tryz.ntmps57
 go_wp2
 go_ret
 exact ⟨rfl, rfl⟩
theorem zDt (m : Am) (w : World) :
  Calls Tryz.prog 25 #[.agg (amc m)] w fun e w' =>
   e = .returned (.func (.func 56) #[] #[.pointer (some ⟨w.heap.size, 0, none⟩)]) /\ w' = w.alloc (.cells (amc m) 69) := by
 unfold amc
 go_enter Tryz.func25, Tryz.ntmps25
 go_wp2
 go_ret
 exact ⟨rfl, rfl⟩
theorem zRC (a : Option Addr) (c t : Nat) (w : World) :
  Calls Tryz.prog 94 #[.slice a 0 c, .int .i64 (t : Int)] w fun e w' => e = .returned (.tuple #[.int .i64 0, .bool false]) /\ w' = w := by
 go_enter Tryz.func94, Tryz.ntmps94
 go_wp2
 go_loopw [7, 8] (fun s7 s8 wr => s7 = .int .i64 0 /\ s8 = .int .i64 0 /\ wr = w) (fun _ _ _ => 0)
 case atStart => exact ⟨rfl, rfl, rfl⟩
 case round =>
  obtain ⟨rfl, rfl, rfl⟩ := hrel
  go_wp2
  go_ret2
  exact ⟨rfl, rfl⟩
theorem zRB (l : List Nat) (a : Option Addr) (c t : Nat) (w : World) (h : Sep.Reads a (nivs l) w) (hs : l.Pairwise (· < ·)) (hl : l.length <= 1000000) :
  Calls Tryz.prog 94 #[.slice a l.length c, .int .i64 (t : Int)] w fun e w' => ∃ p : Int, e = .returned (.tuple #[.int .i64 p, .bool (decide (t ∈ l))]) /\ Below w.heap.size w w' := by
 cases l with
 | nil =>
  refine (zRC a c t w).mono ?_
  rintro e w' ⟨rfl, rfl⟩
  exact ⟨0, by simp, .refl _ _⟩
 | cons x l =>
  obtain ⟨b, o, e, _⟩ := h 0 (by simp [nivs])
  subst e
  have hc : ∀ j, j < ((x :: l).map fun k : Nat => (k : Int)).length -> w.cell? ⟨b, o + j, none⟩ = some (.int .i64 (((x :: l).map fun k : Nat => (k : Int)).getD j 0)) := by
   intro j hj
   rw [List.length_map] at hj
   obtain ⟨b', o', e, h2⟩ := h j (by simpa [nivs] using hj)
   simp only [Option.some.injEq, Addr.mk.injEq, and_true] at e
   obtain ⟨rfl, rfl⟩ := e
   rw [h2]
   rw [List.getD_eq_getElem?_getD, List.getElem?_map, List.getElem?_eq_getElem hj]
   simp only [nivs, List.getElem_map, Option.map_some, Option.getD_some]
  have hcon := AnyG.slices_BinarySearch_int Tryz.bsInt b o (x :: l).length c ((x :: l).map fun k : Nat => (k : Int)) (t : Int) w (by simp) (by omega) hc (by
   rw [List.take_of_length_le (by simp), List.pairwise_map]
   exact hs.imp fun {a b} hab => by omega)
  change Calls Tryz.prog 94 _ _ _ at hcon
  refine hcon.mono ?_
  rintro e w' ⟨he, q, rfl⟩
  have hb : ((x :: l).map fun k : Nat => (k : Int)).contains (t : Int) = decide (t ∈ x :: l) := by
   rw [Bool.eq_iff_iff, List.contains_iff_mem, decide_eq_true_iff, List.mem_map]
   constructor
   ·rintro ⟨k, hk, e⟩
    obtain rfl : k = t := by omega
    exact hk
   ·exact fun hk => ⟨t, hk, rfl⟩
  rw [List.take_of_length_le (by simp), hb] at he
  exact ⟨_, he, ⟨rfl, rfl, rfl, Nat.le_refl _, fun _ _ => rfl⟩⟩
end Ac
namespace Lk
open Go.RowKit Go.Maps
open Im (Gw zDD zFI)
abbrev Lkx := Int × Option Addr × Nat × Nat
def lks (x : Lkx) : Value := .slice x.2.1 x.2.2.1 x.2.2.2
def lc (x : Lkx) : List Value := [.int .i64 x.1, lks x]
theorem zAm (x : Lkx) : (lc x).length = 2 := rfl
theorem zAT (X : List Lkx) : (X.flatMap lc).length = X.length * 2 := by
 induction X with
 | nil => rfl
 | cons x X ih =>
  rw [List.flatMap_cons, List.length_append, ih, zAm, List.length_cons]
  omega
def LksV (base : Nat) (X : List Lkx) (v : Value) (w : World) : Prop := w.ownsRow base 114 2 v X.length (X.flatMap lc)
def cmpL (x y : Lkx) : Int := Lib.compareInt x.1 y.1
theorem zFL (x y : Lkx) : ltOf cmpL x y = decide (x.1 < y.1) := by
 unfold ltOf cmpL Lib.compareInt
 by_cases h1 : x.1 < y.1
 ·simp [h1]
 ·by_cases h2 : y.1 < x.1 <;> simp [h1, h2]
theorem zOb : Go.Sort.SWO (ltOf cmpL) where
 irrefl x := by
  rw [zFL, decide_eq_false_iff_not]
  omega
 trans x y z h1 h2 := by
  rw [zFL, decide_eq_true_iff] at *
  omega
 ntrans x y z h1 h2 := by
  rw [zFL, decide_eq_false_iff_not] at *
  omega
theorem zPb (x y : Lkx) (w : World) :
  Calls Tryz.prog 127 #[.agg #[.int .i64 x.1, lks x], .agg #[.int .i64 y.1, lks y]] w fun e w' => e = .returned (.int .i64 (cmpL x y)) /\ Gw w w' := by
 have C := zSg zDD
 unfold cmpL lks
 go_enter Tryz.func127, Tryz.ntmps127
 go_wp2_with (first
  | (go_at_call 128; refine (C.out _ _ _).mono ?_; rintro e wn ⟨rfl, rfl⟩)
  | fail)
 go_ret
 exact ⟨rfl, by first | exact (((Gw.refl w).alloc _).alloc _) | exact (((Gw.refl w).alloc _).alloc _).drew⟩
theorem zKL (d : Array Lkx) : Go.Sort.flatK lc 2 d = (d.toList.flatMap lc).toArray := by
 have hl := zAT d.toList
 apply Array.ext_getElem?
 intro t
 by_cases ht : t < d.size * 2
 ·have hi : t / 2 < d.toList.length := by rw [Array.length_toList]; omega
  have h := Rw.zBW lc zAm d.toList (t / 2) hi (t % 2) (Nat.mod_lt _ (by omega))
  rw [show t / 2 * 2 + t % 2 = t by omega] at h
  conv => rhs; rw [List.getElem?_toArray, h]
  unfold Go.Sort.flatK
  rw [Array.getElem?_map, Array.getElem?_range, if_pos ht]
  have hi' : t / 2 < d.size := by omega
  rw [Option.map_some, getElem!_pos d (t / 2) hi', Array.getElem_toList]
  rcases Nat.mod_two_eq_zero_or_one t with e | e <;> rw [e] <;> simp [lc]
 ·conv => rhs; rw [List.getElem?_toArray]
  rw [Array.getElem?_eq_none (by simp; omega), List.getElem?_eq_none (by rw [hl, Array.length_toList]; omega)]
theorem zNG {base : Nat} {X : List Lkx} {g cap : Nat} {w : World} (h : LksV base X (.slice (some ⟨g, 0, none⟩) X.length cap) w) : Go.Sort.HoldsK lc 2 w g 0 X.toArray /\ g < w.heap.size := by
 rcases h.2 with ⟨e, _⟩ | ⟨g', cap', cur, e, _, hb, _, _, h3, h4⟩
 ·cases e
 ·simp only [Value.slice.injEq, Option.some.injEq, Addr.mk.injEq, and_true, true_and] at e
  obtain ⟨rfl, rfl⟩ := e
  refine ⟨?_, (Array.getElem?_eq_some_iff.1 hb).1⟩
  unfold Go.Sort.HoldsK
  rw [zKL]
  intro j hj
  have hl := zAT X
  simp only [List.size_toArray] at hj
  refine ⟨?_, by simp [World.frozen?, hb]⟩
  have h1 : (cur.toList.take (X.length * 2))[j]? = (X.flatMap lc)[j]? := by rw [h4]
  rw [List.getElem?_take_of_lt (by omega)] at h1
  simp only [World.cell?, hb, Nat.zero_add]
  simp only [Option.isSome_none, Bool.false_eq_true, if_false]
  rw [← Array.getElem?_toList, h1]
  simp only [List.getElem!_toArray, id]
  rw [List.getElem?_eq_getElem hj, getElem!_pos _ j hj]
theorem zQH {base : Nat} {X Y : List Lkx} {g cap n : Nat} {w : World} {os : Array Obj} (h : LksV base X (.slice (some ⟨g, 0, none⟩) X.length cap) w) (hl : Y.length = X.length) :
  LksV base Y (.slice (some ⟨g, 0, none⟩) X.length cap) (sortWorldK lc 2 w g 0 n Y.toArray os) /\ w.grownBy (sortWorldK lc 2 w g 0 n Y.toArray os) (some g) := by
 unfold sortWorldK Go.Sort.putRowK
 rw [zKL]
 rcases h.2 with ⟨e, _⟩ | ⟨g', cap', cur, e, hbase, hb, h1, h2, h3, h4⟩
 ·cases e
 ·simp only [Value.slice.injEq, Option.some.injEq, Addr.mk.injEq, and_true, true_and] at e
  obtain ⟨rfl, rfl⟩ := e
  have hly := zAT Y
  have hgr := Im.zF5 (w := w) (g := g) (n := n) (os := os) ((Y.flatMap lc).toArray)
  refine ⟨⟨by rw [hly], .inr ⟨g, cap, _, by rw [hl], hbase, Im.zHq _ hb, by omega, h2, by simp [Go.Sort.putCells, h3], ?_⟩⟩, hgr⟩
  rw [← hly]
  exact Im.zE3 cur _ (by rw [hly]; have := Nat.mul_le_mul_right 2 h1; omega)
theorem zD1 (p : Option Addr) (c : Nat) (fv : Value) (w : World) :
  Calls Tryz.prog 191 #[.slice p 0 c, .int .i64 0, .int .i64 0, fv] w fun e w' => e = .returned (.tuple #[]) /\ w' = w := by
 go_enter Tryz.func191, Tryz.ntmps191
 go_wp2
 refine wp_loop_rounds 1 ?_
 rw [rounds_succ]
 go_wp2
 go_end0
 exact ⟨rfl, rfl⟩
theorem zLb (p : Option Addr) (c : Nat) (lim : Int) (fv : Value) (w : World) :
  Calls Tryz.prog 157 #[.slice p 0 c, .int .i64 0, .int .i64 0, .int .i64 lim, fv] w fun e w' => e = .returned (.tuple #[]) /\ w' = w := by
 have hi := fun W => zD1 p c fv W
 go_enter Tryz.func157, Tryz.ntmps157
 go_wp2
 refine wp_loop_rounds 1 ?_
 rw [rounds_succ]
 go_wp2_with (go_at_call 191; refine (hi _).mono ?_; rintro e w' ⟨rfl, rfl⟩)
 (try simp only [Exit.inBlock, Exit.then]); refine bodyPost_ret (results_none rfl _ _ _) rfl ?_
 exact ⟨rfl, rfl⟩
theorem zJM (p : Option Addr) (c : Nat) (fv : Value) (w : World) :
  Calls Tryz.prog 126 #[.slice p 0 c, fv] w fun e w' => e = .returned (.tuple #[]) /\ w' = w := by
 have hp := fun lim W => zLb p c lim fv W
 have hl := zFI
 go_enter Tryz.func126, Tryz.ntmps126
 go_wp2_with (first
  | (go_at_call 158; refine (hl _).mono ?_; rintro e w' ⟨rfl, rfl⟩)
  | (go_at_call 157; refine (hp _ _).mono ?_; rintro e w' ⟨rfl, rfl⟩))
 go_end0
 exact ⟨rfl, rfl⟩
theorem zOY (base : Nat) (X : List Lkx) (a : Option Addr) (c : Nat) (w : World) (h : LksV base X (.slice a X.length c) w) (hl : X.length <= 1000000) :
  Calls Tryz.prog 126 #[.slice a X.length c, .func (.func 127) #[] #[]] w fun e w' => e = .returned (.tuple #[]) /\ ∃ Y, Y.Perm X /\ Y.Pairwise (fun a b => ¬ b.1 < a.1) /\ LksV base Y (.slice a X.length c) w' /\ w.grownBy w' (Value.slice a X.length c).ownBlock := by
 have h' := h
 rcases h'.2 with ⟨e, h0⟩ | ⟨g, cap, cur, e, hbase, hb, _⟩
 ·simp only [Value.slice.injEq] at e
  obtain ⟨rfl, _, rfl⟩ := e
  obtain rfl : X = [] := List.eq_nil_of_length_eq_zero h0
  exact (zJM none 0 _ w).mono fun e w' ⟨h1, h2⟩ => ⟨h1, [], .nil, .nil, by rw [h2]; exact h, by rw [h2]; exact ⟨rfl, rfl, rfl, Nat.le_refl _, fun _ _ _ => rfl⟩⟩
 ·simp only [Value.slice.injEq, true_and] at e
  obtain ⟨rfl, rfl⟩ := e
  obtain ⟨hH, hg⟩ := zNG h
  have eg : ∀ args w, (callFunc 127 args).run Tryz.prog w = .ok (.enter 127 args) w := enters_of Tryz.func127 (by kernel_rfl) rfl
  have hcmp : CmpLays Tryz.prog 127 #[] lc 2 cmpL g 0 X.toArray.size w := fun m os dk _ x y => (zPb x y _).mono fun e w' ⟨h1, q, os', h2⟩ => ⟨h1, q, os', h2⟩
  have hcon := AnyQ.slices_SortFunc Tryz.sortLk 2 Tryz.isAgg114 Tryz.sizeOf114 lc zAm (fun x v hv => by simp [lc, lks] at hv; rcases hv with rfl | rfl <;> rfl) cmpL zOb 127 #[] g 0 c X.toArray w eg hcmp hH hg (by simp; omega)
  change Calls Tryz.prog 126 _ _ _ at hcon
  simp only [List.size_toArray] at hcon
  refine hcon.mono ?_
  rintro e w' ⟨h1, d', n, os, ⟨p1, p2, p3⟩, hs, rfl⟩
  simp only [List.size_toArray] at p1 p3
  have hp : d'.toList.Perm X := by
   have e1 : d'.extract 0 X.length = d' := by rw [← p1]; simp
   have e2 : X.toArray.extract 0 X.length = X.toArray := by simp
   rw [e1, e2] at p3
   simpa using p3
  have hd : d' = d'.toList.toArray := by simp
  have hr := zQH (Y := d'.toList) (n := n) (os := os) h (by rw [Array.length_toList]; exact p1)
  rw [← hd] at hr
  refine ⟨h1, d'.toList, hp, ?_, hr.1, hr.2⟩
  rw [List.pairwise_iff_getElem]
  intro i j hi hj hij
  have hi' : i < d'.size := by simpa using hi
  have hj' : j < d'.size := by simpa using hj
  have := hs i j (Nat.zero_le _) hij (by omega)
  rw [zFL, decide_eq_false_iff_not, getElem!_pos d' j hj', getElem!_pos d' i hi'] at this
  simpa using this
end Lk
namespace Ac
open Gr (Gram)
open Au
section
variable {α : Type}
def upTo (f : Nat -> List α) (n : Nat) : List α := (List.range n).flatMap f
theorem zMH (f : Nat -> List α) : upTo f 0 = [] := rfl
theorem zC6 (f : Nat -> List α) (n : Nat) : upTo f (n + 1) = upTo f n ++ f n := by
 unfold upTo
 rw [List.range_succ, List.flatMap_append]
 simp
theorem zMG {f : Nat -> List α} {n i j : Nat} (hi : i < n) (hj : j < (f i).length) : (upTo f n)[(upTo f i).length + j]? = some (f i)[j] := by
 induction n with
 | zero => omega
 | succ n ih =>
  rw [zC6]
  by_cases h : i < n
  ·have := ih h
   rw [List.getElem?_append_left (List.getElem?_eq_some_iff.1 this).1, this]
  ·obtain rfl : i = n := by omega
   rw [List.getElem?_append_right (by omega), Nat.add_sub_cancel_left, List.getElem?_eq_getElem hj]
end
section
variable {G : Gram} {q : Whole}
noncomputable def cI (G : Gram) (q : Whole) (i : Nat) : Nat := (upTo (rowC G q) i).length
noncomputable def cT (G : Gram) (q : Whole) (i t : Nat) : Nat := cI G q i + (upTo (cellC G q i) t).length
theorem zPU : cI G q 0 = 0 := rfl
theorem zJ0 (i : Nat) : cT G q i (G.terms.length + 1) = cI G q (i + 1) := by
 unfold cT cI
 rw [zC6 (rowC G q), List.length_append]
 rfl
theorem zE9 (i t : Nat) : (cellC G q i t).length = (actL G q i t).length - 1 := by
 unfold cellC
 rw [List.length_map, List.length_tail]
theorem zPV (i t : Nat) : cT G q i (t + 1) = cT G q i t + ((actL G q i t).length - 1) := by
 unfold cT
 rw [zC6, List.length_append, zE9, Nat.add_assoc]
theorem zJz : cI G q q.1.length = (zAQ G q).length := rfl
theorem zHh {i t j : Nat} (hi : i < q.1.length) (ht : t < G.terms.length + 1) {a b : Ac2} (ha : (actL G q i t)[0]? = some a) (hb : (actL G q i t)[j + 1]? = some b) :
  (zAQ G q)[cT G q i t + j]? = some ((i : Int), (t : Int), a, b) := by
 obtain ⟨hl, hb⟩ := List.getElem?_eq_some_iff.1 hb
 have hj : j < (cellC G q i t).length := by rw [zE9]; omega
 have h1 := zMG (f := cellC G q i) ht hj
 obtain ⟨h2, h3⟩ := List.getElem?_eq_some_iff.1 h1
 have h4 := zMG (f := rowC G q) (n := q.1.length) (i := i) (j := (upTo (cellC G q i) t).length + j) hi h2
 unfold cT cI
 rw [Nat.add_assoc]
 show (upTo (rowC G q) q.1.length)[_]? = _
 rw [h4]
 have h5 : (rowC G q i)[(upTo (cellC G q i) t).length + j] = (cellC G q i t)[j] := h3
 have hf : fstA G q i t = a := by
  unfold fstA
  rcases hA : actL G q i t with _ | ⟨x, l⟩
  ·rw [hA] at ha
   cases ha
  ·rw [hA] at ha
   injection ha with ha
 have h6 : (cellC G q i t)[j]? = some ((i : Int), (t : Int), a, b) := by
  unfold cellC
  rw [hf, List.getElem?_map, List.getElem?_tail, List.getElem?_eq_getElem hl, hb]
  rfl
 rw [List.getElem?_eq_getElem hj] at h6
 rw [h5, h6]
theorem zMX {i t k : Nat} {x : Ac2} (h : (actL G q i t)[k]? = some x) : x.1 = 1 \/ x.1 = 2 \/ x.1 = 3 := by
 have hm := List.mem_of_getElem? h
 unfold actL zBC accL redL at hm
 rw [List.mem_append, List.mem_append] at hm
 rcases hm with (h | h) | h
 ·split at h
  ·rw [List.mem_singleton] at h
   subst h
   exact .inl rfl
  ·cases h
 ·split at h
  ·rw [List.mem_singleton] at h
   subst h
   exact .inr (.inr rfl)
  ·cases h
 ·obtain ⟨k, _, rfl⟩ := List.mem_map.1 h
  exact .inr (.inl rfl)
end
end Ac
namespace Ac
open Gr (Gram)
open Im
open Au
theorem zPG {G : Gram} {q : Whole} (D : Done G q) {i : Nat} (hi : i < q.1.length) {t : Nat} {x : Ac2} (hx : x ∈ actL G q i t) : (∃ n : Nat, n < q.1.length /\ x = (1, (n : Int))) \/ x = (3, 0) \/ ∃ k : Nat, k < G.rules.length /\ x = (2, (k : Int)) := by
 unfold actL at hx
 rcases List.mem_append.1 hx with h | h
 ·rcases List.mem_append.1 h with h | h
  ·rcases zCi D hi t with ⟨_, e⟩ | ⟨n, _, hn, e⟩
   ·rw [e] at h
    cases h
   ·rw [e, List.mem_singleton] at h
    exact .inl ⟨n, hn, h⟩
  ·unfold accL at h
   split at h
   ·rw [List.mem_singleton] at h
    exact .inr (.inl h)
   ·cases h
 ·unfold redL at h
  obtain ⟨k, hk, rfl⟩ := List.mem_map.1 h
  exact .inr (.inr ⟨k, List.mem_range.1 (List.mem_filter.1 hk).1, rfl⟩)
theorem zKP {G : Gram} {q : Whole} (D : Done G q) {i : Nat} (hi : i < q.1.length) (t : Nat) : fstA G q i t = (0, 0) \/ (∃ n : Nat, n < q.1.length /\ fstA G q i t = (1, (n : Int))) \/ fstA G q i t = (3, 0) \/ ∃ k : Nat, k < G.rules.length /\ fstA G q i t = (2, (k : Int)) := by
 unfold fstA
 rcases h : actL G q i t with _ | ⟨x, l⟩
 ·exact .inl rfl
 ·exact .inr (zPG D hi (by rw [h]; exact List.mem_cons_self ..))
theorem zKS {G : Gram} {q : Whole} (D : Done G q) {i : Nat} (hi : i < q.1.length) (t : Nat) :
  (leads (q.2.getD i []) (t : Int) = -1 /\ (fstA G q i t).1 ≠ 1) \/ ∃ n : Nat, leads (q.2.getD i []) (t : Int) = (n : Int) /\ n < q.1.length /\ fstA G q i t = (1, (n : Int)) := by
 rw [← zCL D hi]
 rcases zCi D hi t with ⟨h, e⟩ | ⟨n, h, hn, e⟩
 ·refine .inl ⟨h, ?_⟩
  unfold fstA
  rcases hl : actL G q i t with _ | ⟨x, l⟩
  ·simp
  ·have hx : x ∈ actL G q i t := by rw [hl]; exact List.mem_cons_self ..
   unfold actL at hx
   rw [e, List.nil_append] at hx
   rcases List.mem_append.1 hx with k | k
   ·unfold accL at k
    split at k
    ·rw [List.mem_singleton] at k
     subst k
     simp
    ·cases k
   ·unfold redL at k
    obtain ⟨j, _, rfl⟩ := List.mem_map.1 k
    simp
 ·refine .inr ⟨n, h, hn, ?_⟩
  unfold fstA actL
  rw [e]
  rfl
