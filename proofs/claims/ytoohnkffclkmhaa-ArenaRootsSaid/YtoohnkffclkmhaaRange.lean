/-
  A range over a function whose body is walked once, for iterators that read memory between rounds and that may themselves stand in another's round: what a round may turn is a set of blocks that grows by new ones alone. No program in it.
-/
import Derived.Test.YtoohnkffclkmhaaSep
import Derived.RangeFuncNested
import Derived.RangeFuncBound
import Derived.RangeFuncCalls
import Derived.RangeFuncLeaves
namespace Go.Proofs.Ytoohnkffclkmhaa.Rg
open Go.RowKit
open Go.Proofs.Ytoohnkffclkmhaa.Sep
set_option linter.unusedVariables false
variable {P : Program}

theorem round_any {n m l f : Nat} {o : Option Nat} {tmps : Array Value} {assign body : Code} {w : World} {R : Ending → World → Prop} (h : RoundIn Fence.wide n P l f tmps assign body w R) : RoundIn { Fence.wide with round := o } m P l f tmps assign body w R :=
  ⟨h.1, fun c cs _ => h.2 c cs (room_wide _)⟩
theorem calls_any {m f : Nat} {o : Option Nat} {args : Array Value} {w : World} {R : Ending → World → Prop} (h : Calls P f args w R) : CallsIn { Fence.wide with round := o } m P f args w R :=
  callsIn_wide.2 h
theorem calls_up {n m f : Nat} {o : Option Nat} {args : Array Value} {w : World} {R : Ending → World → Prop} (h : CallsIn Fence.wide n P f args w R) : CallsIn { Fence.wide with round := o } m P f args w R := calls_any (callsIn_wide.1 h)
theorem yield_any {n m l : Nat} {o : Option Nat} {args : Array Value} {w : World} {R : Ending → World → Prop} (h : YieldAt Fence.wide n P l args w R) : YieldAt { Fence.wide with round := o } m P l args w R := by
  obtain ⟨fn, tmps, assign, body, hy, hR⟩ := h
  exact ⟨fn, tmps, assign, body, hy, round_any hR⟩

/-- It speaks of blocks ahead of B and of its own set alone. -/
def Holds (B : Nat) (J : Nat → (Nat → Prop) → World → Prop) : Prop :=
  ∀ k S T A A', J k S A → Inn S A → Fr T A A' → (∀ x, T x → B ≤ x ∧ ¬ S x) → J k S A'
/-- Both sets. -/
def Or2 (S X : Nat → Prop) : Nat → Prop := fun x => S x ∨ X x
/-- The function value hands the N values 'encs' in their order to yield, or stops where yield says so. O: the blocks that it reads; X: what the round that stops it may turn beside. -/
def Yields (P : Program) (g : Nat) (lb : Array Value) (encs : Nat → Array Value) (N : Nat) (O : Nat → Prop) (w0 : World) : Prop :=
  ∀ (l : Nat) (J Jx : Nat → (Nat → Prop) → World → Prop) (S X : Nat → Prop) (W : World),
    Fr S w0 W → Off S O → Inn S W → Inn X W → Holds W.heap.size J → Holds W.heap.size Jx →
    (∀ k S1 W1, k < N → J k S1 W1 → Inn S1 W1 → YieldAt Fence.wide 0 P l (encs k) W1 fun e W' => ∃ S', Inn S' W' ∧ ((e = .returned (.bool true) ∧ Ext S' S1 W1 ∧ Fr S1 W1 W' ∧ J (k + 1) S' W') ∨ (e = .returned (.bool false) ∧ Ext S' (Or2 S1 X) W1 ∧ Fr (Or2 S1 X) W1 W' ∧ Jx (k + 1) S' W'))) →
    J 0 S W →
    CallsIn Fence.wide 0 P g (#[.func (.yield l) #[] #[]] ++ lb) W fun e W' => (∃ v, e = .returned v) ∧ ∃ S', Inn S' W' ∧ ((Ext S' S W ∧ Fr S W W' ∧ J N S' W') ∨ (Ext S' (Or2 S X) W ∧ Fr (Or2 S X) W W' ∧ ∃ k, k ≤ N ∧ Jx k S' W'))

/-- How a body may be left. -/
def endsR (X : Nat → Prop) (I : Nat → (Nat → Prop) → World → Prop) (Ix : Code → Nat → (Nat → Prop) → World → Prop) (k : Nat) (S1 : Nat → Prop) (W W2 : World) : Exit → Act → World → Prop
  | .normal, _, W3 => ∃ S', Ext S' S1 W ∧ Fr (fun x => S1 x ∨ W.heap.size ≤ x) W2 W3 ∧ Inn S' W3 ∧ I k S' W3
  | .ret, _, W3 => ∃ S', Ext S' (Or2 S1 X) W ∧ Fr (fun x => Or2 S1 X x ∨ W.heap.size ≤ x) W2 W3 ∧ Inn S' W3 ∧ Ix .ret k S' W3
  | .exit id, _, W3 => ∃ S', Ext S' (Or2 S1 X) W ∧ Fr (fun x => Or2 S1 X x ∨ W.heap.size ≤ x) W2 W3 ∧ Inn S' W3 ∧ Ix (.exit id) k S' W3
  | .goto t, _, W3 => ∃ S', Ext S' (Or2 S1 X) W ∧ Fr (fun x => Or2 S1 X x ∨ W.heap.size ≤ x) W2 W3 ∧ Inn S' W3 ∧ Ix (.goto t) k S' W3
  | .panic _, _, _ => False
  | .outgrown, _, _ => False

theorem fr_put (w : World) (l : Nat) (o : Obj) : Fr (fun x => x = l) w (w.putObj l o) :=
  ⟨rfl, rfl, rfl, by simp, fun k _ hk => World.putObj_heap_other hk⟩

section
variable {S1 S' : Nat → Prop} {W W1 W2 W3 : World} {l : Nat} {o : Obj}
/-- The frame of a round, the record's turns with it. -/
theorem fr_round {S2 : Nat → Prop} (h0 : ∀ x, S1 x → S2 x) (h1 : Fr S1 W W1) (h2 : Fr (fun x => S2 x ∨ W.heap.size ≤ x) (W1.putObj l o) W3) (o' : Obj) : Fr (fun x => S2 x ∨ x = l) W (W3.putObj l o') :=
  (((h1.mono (T := fun x => S2 x ∨ x = l) fun k e => .inl (h0 k e)).trans (fr_put W1 l o) fun k e => .inl (.inr e)).trans h2 fun k e => e.elim (fun e => .inl (.inl e)) fun e => .inr e).trans (fr_put W3 l o') fun k e => .inl (.inr e)
theorem fr_kept {T : Nat → Prop} (h : Fr T W1 W3) {k : Nat} {o : Obj} (hk : W1.heap[k]? = some o) (hT : ¬ T k) : W3.heap[k]? = some o :=
  (h.block k (Array.getElem?_eq_some_iff.1 hk).1 hT).trans hk
theorem ext_or (h : Ext S' S1 W) : Ext (fun x => S' x ∨ x = l) (fun x => S1 x ∨ x = l) W := fun k e => e.elim (fun e => (h k e).imp .inl id) fun e => .inl (.inr e)
end

/-- The loop's record, the block for the rounds' deferred calls. -/
structure Rcd (S0 : Nat → Prop) (w : World) (rec : LoopState → Option Code → Loop) (st : LoopState) (pe : Option Code) (S : Nat → Prop) (W : World) : Prop where
  ext : Ext S S0 w
  fr : Fr S0 w W
  loop : W.heap[w.heap.size + 1]? = some (.loop (rec st pe))
  rest : W.heap[w.heap.size]? = some (.deferred (some []))
  inn : Inn S W
  nl : ¬ S (w.heap.size + 1)
  nd : ¬ S w.heap.size

/-- THE STATEMENT 'for .. := range g { .. }', outside of rounds. -/
theorem range_law {n N : Nat} {g : Operand} {ps : Array Tmp} {assign body : Code} {Q : Exit → Act → World → Prop} {a : Act} {w : World} {gf : Nat} {lb : Array Value}
    (hg : a.eval g = .func (.func gf) #[] lb) (eg : ∀ args w, (callFunc gf args).run P w = .ok (.enter gf args) w) {encs : Nat → Array Value} {O : Nat → Prop}
    (hseq : Yields P gf lb encs N O w) (hps : ∀ k, (encs k).size = ps.size)
    (I : Nat → (Nat → Prop) → World → Prop) (Ix : Code → Nat → (Nat → Prop) → World → Prop) (hI : Holds w.heap.size I) (hIx : ∀ c, Holds w.heap.size (Ix c)) (S X : Nat → Prop) (hO : Off S O) (hOi : Inn O w) (hS : Inn S w) (hX : Inn X w) (h0 : I 0 S w)
    (hround : ∀ (l k : Nat) (S1 : Nat → Prop) (W : World), k < N → w.heap.size ≤ l → l < W.heap.size → ¬ S1 l → I k S1 W → Inn S1 W → Ext S1 S w → Fr S w W →
      assign.wpIn (Fence.wide.inRound l) 9 P (Exit.then (fun a1 W1 => Fr S1 W W1 ∧ ∀ W2, Fr (fun x => x = l) W1 W2 → W2.heap.size = W1.heap.size → body.wpIn (Fence.wide.inRound l) 9 P (endsR X I Ix (k + 1) S1 W W2) a1 W2) (fun _ _ _ => False))
        { tmps := (ps.zip (encs k)).foldl (fun t (p, v) => t.setIfInBounds p v) a.tmps, defers := [] } W)
    (hdone : ∀ (S' : Nat → Prop) (W : World), I N S' W → Inn S' W → Ext S' S w → Fr S w W → W.heap[w.heap.size]? = some (.deferred (some [])) → ¬ S' w.heap.size → Q .normal { a with defers := { target := .collected w.heap.size, args := #[] } :: a.defers } W)
    (hstop : ∀ (c : Code) (k : Nat) (S' : Nat → Prop) (W : World), k ≤ N → Ix c k S' W → Inn S' W → Ext S' (Or2 S X) w → Fr (Or2 S X) w W → W.heap[w.heap.size]? = some (.deferred (some [])) → ¬ S' w.heap.size → c.wpIn Fence.wide n P Q { a with defers := { target := .collected w.heap.size, args := #[] } :: a.defers } W) :
    (Code.rangeFunc g ps assign body).wpIn Fence.wide n P Q a w := by
  refine wpIn_rangeFunc ?_
  intro fn _
  obtain ⟨rec, hrec⟩ : ∃ rec : LoopState → Option Code → Loop, rec = fun st pe => { state := st, pending := pe, fn, tmps := a.tmps, params := ps, assign, body, defers := w.heap.size } := ⟨_, rfl⟩
  obtain ⟨We, hWe⟩ : ∃ We, (w.alloc (.deferred (some []))).alloc (.loop (rec .ready none)) = We := ⟨_, rfl⟩
  have hsz : We.heap.size = w.heap.size + 2 := by rw [← hWe]; simp
  have hF0 : ∀ T, Fr T w We := fun T => by rw [← hWe]; exact ((Fr.refl T w).alloc _).alloc _
  have hR0 : Rcd S w rec .ready none S We := by
    refine ⟨.refl _ _, hF0 _, ?_, ?_, hS.le (by omega), fun h => by have := hS _ h; omega, fun h => by have := hS _ h; omega⟩
    · rw [← hWe]
      have := World.alloc_heap_new (w.alloc (.deferred (some []))) (.loop (rec .ready none))
      rwa [World.size_alloc] at this
    · rw [← hWe]
      exact (Below.heap_alloc _ _ _ (by simp)).trans (World.alloc_heap_new w _)
  have hI0 : I 0 S We := hI 0 S (fun _ => False) w We h0 hS (hF0 _) fun x h => h.elim
  refine ⟨w.heap.size + 1, [{ target := .collected w.heap.size, args := #[] }], We, { target := .fn (.func gf) lb, args := #[.func (.yield (w.heap.size + 1)) #[] #[]] }, We, gf,
    #[.func (.yield (w.heap.size + 1)) #[] #[]] ++ lb, We, ?_, ?_, ?_, ?_, fun h => by simp [Fence.wide] at h, ?_⟩
  · rw [← hWe, hrec]
    exact run_enterLoop_outer _ _ _ _ _
  · simp only [resolve, hg]
    simp [go_sem]
  · intro f' _
    trivial
  · simp [invoke, go_sem, eg]
  have hold : ∀ (Y : Nat → (Nat → Prop) → World → Prop) (S0 : Nat → Prop) (st : LoopState) (pe : Option Code), Holds w.heap.size Y → Holds We.heap.size fun k S' W => ∃ S1, S' = (fun x => S1 x ∨ x = w.heap.size + 1) ∧ Y k S1 W ∧ Rcd S0 w rec st pe S1 W := by
    rintro Y S0 st pe hY k S' T A A' ⟨S1, rfl, hx, r⟩ hi hf hT
    refine ⟨S1, rfl, hY k S1 T A A' hx r.inn hf fun x hx => ⟨by have := (hT x hx).1; omega, fun h => (hT x hx).2 (.inl h)⟩, r.ext, r.fr.trans hf (fun x hx => .inr (by have := (hT x hx).1; omega)), fr_kept hf r.loop fun h => (hT _ h).2 (.inr rfl), fr_kept hf r.rest fun h => by have := (hT _ h).1; omega, r.inn.le hf.size, r.nl, r.nd⟩
  refine (show CallsIn Fence.wide (n - 1) P gf _ We _ from calls_any (callsIn_wide.1 (hseq (w.heap.size + 1)
    (fun k S' W => ∃ S1, S' = (fun x => S1 x ∨ x = w.heap.size + 1) ∧ I k S1 W ∧ Rcd S w rec .ready none S1 W)
    (fun k S' W => ∃ c S1, S' = (fun x => S1 x ∨ x = w.heap.size + 1) ∧ Ix c k S1 W ∧ Rcd (Or2 S X) w rec .done (some c) S1 W)
    (fun x => S x ∨ x = w.heap.size + 1) X We ?_ ?_ ?_ (hX.le (by omega)) (hold I S _ _ hI) ?_ ?_ ⟨S, rfl, hI0, hR0⟩))).mono ?_
  · exact (hF0 _)
  · rintro k (h | rfl) ho
    · exact hO k h ho
    · have := hOi _ ho
      omega
  · rintro k (h | rfl)
    · exact hR0.inn k h
    · omega
  · rintro k S' T A A' ⟨c, h⟩ hi hf hT
    exact ⟨c, hold (Ix c) _ _ _ (hIx c) k S' T A A' h hi hf hT⟩
  · rintro k S' W hk ⟨S1, rfl, hi, r⟩ hin
    have hlt : w.heap.size + 1 < W.heap.size := (Array.getElem?_eq_some_iff.1 r.loop).1
    have hxl : ∀ x, X x → x < w.heap.size := hX
    have hy := run_yield (P := P) (args := encs k) r.loop (by rw [hrec]; exact hps k)
    rw [hrec] at hy
    refine ⟨fn, _, assign, body, hy, round_any (o := none) (roundIn_of_wpIn (F := Fence.wide) (n := 9) trivial (wpIn_mono (hround (w.heap.size + 1) k S1 W hk (by omega) hlt r.nl hi r.inn r.ext r.fr) ?_))⟩
    clear hy
    rintro e a1 W1 hp
    cases e with
    | normal =>
      obtain ⟨h1, h2⟩ := hp
      have hl1 := fr_kept h1 r.loop r.nl
      refine ⟨_, run_beginRound hl1 (by rw [hrec]), ?_⟩
      have hb := h2 _ (fr_put W1 (w.heap.size + 1) (.loop { rec .ready none with state := .busy })) (by simp)
      have hl2 : (W1.putObj (w.heap.size + 1) (.loop { rec .ready none with state := .busy })).heap[w.heap.size + 1]? = some (.loop { rec .ready none with state := .busy }) := World.putObj_heap_same (Array.getElem?_eq_some_iff.1 hl1).1
      refine wpIn_mono hb ?_
      have fin : ∀ (Y : Nat → (Nat → Prop) → World → Prop) (Sb : Nat → Prop) (jump : Option Code) (W3 : World), Holds w.heap.size Y → (∀ x, S1 x → Sb x) → (∀ x, Sb x → S1 x ∨ X x) → (∃ S', Ext S' Sb W ∧ Fr (fun x => Sb x ∨ W.heap.size ≤ x) (W1.putObj (w.heap.size + 1) (.loop { rec .ready none with state := .busy })) W3 ∧ Inn S' W3 ∧ Y (k + 1) S' W3) →
          ∃ W', (Instr.endRound (w.heap.size + 1) jump).run P W3 = .ok (.bool jump.isNone) W' ∧ ∃ S', Ext (fun x => S' x ∨ x = w.heap.size + 1) (fun x => Sb x ∨ x = w.heap.size + 1) W ∧ Fr (fun x => Sb x ∨ x = w.heap.size + 1) W W' ∧ Inn (fun x => S' x ∨ x = w.heap.size + 1) W' ∧ Y (k + 1) S' W' ∧
            (∀ S0, (∀ x, Sb x → S0 x ∨ w.heap.size ≤ x) → (∀ x, S x → S0 x) → Rcd S0 w rec (if jump.isNone then .ready else .done) jump S' W') := by
        rintro Y Sb jump W3 hY hb1 hb2 ⟨S', he, hf, hin', hx⟩
        have hsl : ¬ Sb (w.heap.size + 1) := fun h => (hb2 _ h).elim r.nl fun h => by have := hxl _ h; omega
        have hsd : ¬ Sb w.heap.size := fun h => (hb2 _ h).elim r.nd fun h => by have := hxl _ h; omega
        have hnl : ¬ S' (w.heap.size + 1) := fun h => (he _ h).elim hsl fun h => by omega
        have hnd : ¬ S' w.heap.size := fun h => (he _ h).elim hsd fun h => by omega
        have hl3 := fr_kept hf hl2 fun h => h.elim hsl fun h => by omega
        have hk3 : W3.heap[w.heap.size]? = some (.deferred (some [])) := fr_kept hf ((World.putObj_heap_other (by omega)).trans (fr_kept h1 r.rest r.nd)) fun h => h.elim hsd fun h => by omega
        have hlt3 := (Array.getElem?_eq_some_iff.1 hl3).1
        refine ⟨_, run_endRound (P := P) jump hl3, S', ext_or he, fr_round hb1 h1 hf _, ?_, hY _ _ _ _ _ hx hin' (fr_put W3 _ _) (by rintro x rfl; exact ⟨by omega, hnl⟩), fun S0 hs0 hs1 => ⟨?_, ?_, ?_, ?_, hin'.le (by simp), hnl, hnd⟩⟩
        · rintro x (h | rfl)
          · simp only [World.putObj_size]
            exact hin' x h
          · simp only [World.putObj_size]
            exact hlt3
        · intro x hx2
          rcases he x hx2 with h | h
          · exact hs0 x h
          · exact .inr (Nat.le_trans r.fr.size h)
        · refine (r.fr.mono hs1).trans (fr_round hb1 h1 hf _) (fun x hx => hx.elim (fun h => hs0 x h) fun h => .inr (by omega))
        · rw [World.putObj_heap_same hlt3, hrec]
        · exact (World.putObj_heap_other (by omega)).trans hk3
      have hx1 : ∀ x, S1 x → S x ∨ w.heap.size ≤ x := r.ext
      have hx2 : ∀ x, Or2 S1 X x → Or2 S X x ∨ w.heap.size ≤ x := fun x h => h.elim (fun h => (r.ext x h).imp .inl id) fun h => .inl (.inr h)
      have ho1 : ∀ (T : Nat → Prop) (W' : World), Ext T (fun x => Or2 S1 X x ∨ x = w.heap.size + 1) W' → Ext T (Or2 (fun x => S1 x ∨ x = w.heap.size + 1) X) W' := fun T W' h x hx => (h x hx).imp (fun h => h.elim (fun h => h.elim (fun h => .inl (.inl h)) .inr) fun h => .inl (.inr h)) id
      have ho2 : ∀ (A B : World), Fr (fun x => Or2 S1 X x ∨ x = w.heap.size + 1) A B → Fr (Or2 (fun x => S1 x ∨ x = w.heap.size + 1) X) A B := fun A B h => h.mono fun x h => h.elim (fun h => h.elim (fun h => .inl (.inl h)) .inr) fun h => .inl (.inr h)
      rintro e a3 W3 hp
      cases e with
      | normal =>
        obtain ⟨W', hr, S', g1, g2, g3, g4, g5⟩ := fin I S1 none W3 hI (fun _ h => h) (fun _ h => .inl h) hp
        exact ⟨_, _, hr, _, g3, .inl ⟨rfl, g1, g2, S', rfl, g4, g5 S hx1 fun _ h => h⟩⟩
      | ret =>
        obtain ⟨W', hr, S', g1, g2, g3, g4, g5⟩ := fin (Ix .ret) (Or2 S1 X) (some .ret) W3 (hIx _) (fun _ h => .inl h) (fun _ h => h) hp
        exact ⟨_, _, hr, _, g3, .inr ⟨rfl, ho1 _ _ g1, ho2 _ _ g2, .ret, S', rfl, g4, g5 _ hx2 fun _ h => .inl h⟩⟩
      | exit id =>
        obtain ⟨W', hr, S', g1, g2, g3, g4, g5⟩ := fin (Ix (.exit id)) (Or2 S1 X) (some (.exit id)) W3 (hIx _) (fun _ h => .inl h) (fun _ h => h) hp
        exact ⟨_, _, hr, _, g3, .inr ⟨rfl, ho1 _ _ g1, ho2 _ _ g2, .exit id, S', rfl, g4, g5 _ hx2 fun _ h => .inl h⟩⟩
      | goto t =>
        obtain ⟨W', hr, S', g1, g2, g3, g4, g5⟩ := fin (Ix (.goto t)) (Or2 S1 X) (some (.goto t)) W3 (hIx _) (fun _ h => .inl h) (fun _ h => h) hp
        exact ⟨_, _, hr, _, g3, .inr ⟨rfl, ho1 _ _ g1, ho2 _ _ g2, .goto t, S', rfl, g4, g5 _ hx2 fun _ h => .inl h⟩⟩
      | panic ch => exact hp.elim
      | outgrown => exact hp.elim
    | _ => exact hp.elim
  · rintro e W2 ⟨⟨v, rfl⟩, S', hin, h⟩
    rcases h with ⟨he, hf, S1, rfl, hi, r⟩ | ⟨he, hf, k, hk, c, S1, rfl, hi, r⟩
    · have hr := run_endLoop (P := P) r.loop (by rw [hrec]; simp)
      refine ⟨none, _, by rw [hrec] at hr; exact hr, hdone S1 _ (hI _ _ _ _ _ hi r.inn (fr_put W2 _ _) (by rintro x rfl; exact ⟨by omega, r.nl⟩)) (r.inn.le (by simp)) r.ext (r.fr.trans (fr_put W2 _ _) fun k e => .inr (by omega)) ((World.putObj_heap_other (by omega)).trans r.rest) r.nd⟩
    · have hr := run_endLoop (P := P) r.loop (by rw [hrec]; simp)
      refine ⟨some c, _, by rw [hrec] at hr; exact hr, hstop c k S1 _ hk (hIx c _ _ _ _ _ hi r.inn (fr_put W2 _ _) (by rintro x rfl; exact ⟨by omega, r.nl⟩)) (r.inn.le (by simp)) r.ext (r.fr.trans (fr_put W2 _ _) fun k e => .inr (by omega)) ((World.putObj_heap_other (by omega)).trans r.rest) r.nd⟩

/-! ### Within an iterator -/

/-- Where the iterator stands: k values have gone to yield; S1: what its caller may turn. -/
structure St (J : Nat → (Nat → Prop) → World → Prop) (S O : Nat → Prop) (We : World) (k : Nat) (S1 : Nat → Prop) (W : World) : Prop where
  j : J k S1 W
  inn : Inn S1 W
  ext : Ext S1 S We
  fr : Fr S We W
  off : Off S1 O
section
variable {J Jx : Nat → (Nat → Prop) → World → Prop} {S O S1 T : Nat → Prop} {We W W' w0 : World} {k : Nat}
theorem St.start (h0 : J 0 S We) (hin : Inn S We) (hO : Off S O) : St J S O We 0 S We := ⟨h0, hin, .refl _ _, .refl _ _, hO⟩
/-- The iterator's own blocks. -/
theorem St.own (h : St J S O We k S1 W) (hJ : Holds We.heap.size J) (hf : Fr T W W') (hT : ∀ x, T x → We.heap.size ≤ x ∧ ¬ S1 x) : St J S O We k S1 W' :=
  ⟨hJ _ _ _ _ _ h.j h.inn hf hT, h.inn.le hf.size, h.ext, h.fr.trans hf fun x hx => .inr (hT x hx).1, h.off⟩
theorem St.went (h : St J S O We k S1 W) (hJ : Holds We.heap.size J) (hb : Below W.heap.size W W') : St J S O We k S1 W' :=
  h.own hJ (T := fun _ => False) (.of_below hb) fun _ hx => hx.elim
theorem St.alloc (h : St J S O We k S1 W) (hJ : Holds We.heap.size J) (o : Obj) : St J S O We k S1 (W.alloc o) :=
  h.own hJ (T := fun _ => False) ((Fr.refl _ W).alloc o) fun _ hx => hx.elim
theorem St.drew (h : St J S O We k S1 W) (hJ : Holds We.heap.size J) : St J S O We k S1 W.drew :=
  h.own hJ (T := fun _ => False) ((Fr.refl _ W).drew) fun _ hx => hx.elim
/-- A block that the iterator laid, or reads, is none of its caller's. -/
theorem St.free (h : St J S O We k S1 W) (hO : Inn O We) {x : Nat} (hx : O x ∨ (We.heap.size ≤ x ∧ ¬ S1 x)) : ¬ S1 x := fun hs => by
  rcases hx with hx | hx
  · exact h.off x hs hx
  · exact hx.2 hs
/-- What yield's answer brings. -/
def Said (X : Nat → Prop) (J Jx : Nat → (Nat → Prop) → World → Prop) (k : Nat) (S1 : Nat → Prop) (W1 : World) (e : Ending) (W' : World) : Prop :=
  ∃ S', Inn S' W' ∧ ((e = .returned (.bool true) ∧ Ext S' S1 W1 ∧ Fr S1 W1 W' ∧ J (k + 1) S' W') ∨ (e = .returned (.bool false) ∧ Ext S' (Or2 S1 X) W1 ∧ Fr (Or2 S1 X) W1 W' ∧ Jx (k + 1) S' W'))
/-- Where the iterator was stopped. -/
structure Fin (Jx : Nat → (Nat → Prop) → World → Prop) (S X : Nat → Prop) (We : World) (k : Nat) (S1 : Nat → Prop) (W : World) : Prop where
  j : Jx k S1 W
  inn : Inn S1 W
  ext : Ext S1 (Or2 S X) We
  fr : Fr (Or2 S X) We W
theorem Fin.own {X : Nat → Prop} (h : Fin J S X We k S1 W) (hJ : Holds We.heap.size J) (hf : Fr T W W') (hT : ∀ x, T x → We.heap.size ≤ x ∧ ¬ S1 x) : Fin J S X We k S1 W' :=
  ⟨hJ _ _ _ _ _ h.j h.inn hf hT, h.inn.le hf.size, h.ext, h.fr.trans hf fun x hx => .inr (hT x hx).1⟩
theorem St.stop {X : Nat → Prop} (h : St J S O We k S1 W) {S' : Nat → Prop} (he : Ext S' (Or2 S1 X) W) (hf : Fr (Or2 S1 X) W W') (hi : Inn S' W') {J' : Nat → (Nat → Prop) → World → Prop} {k' : Nat} (hj : J' k' S' W') : Fin J' S X We k' S' W' :=
  ⟨hj, hi, fun x hx => (he x hx).elim (fun h2 => h2.elim (fun h3 => (h.ext x h3).imp .inl id) fun h3 => .inl (.inr h3)) fun h2 => .inr (Nat.le_trans h.fr.size h2),
    (h.fr.mono (T := Or2 S X) fun x e => .inl e).trans hf fun x hx => hx.elim (fun h3 => (h.ext x h3).imp .inl id) fun h3 => .inl (.inr h3)⟩
theorem St.then (h : St J S O We k S1 W) (hO : Inn O We) {S' : Nat → Prop} (he : Ext S' S1 W) (hf : Fr S1 W W') (hi : Inn S' W') {J' : Nat → (Nat → Prop) → World → Prop} {k' : Nat} (hj : J' k' S' W') : St J' S O We k' S' W' :=
  ⟨hj, hi, h.ext.trans he h.fr.size, h.fr.trans hf h.ext, h.off.ext he (hO.le h.fr.size)⟩
/-- What lies at the iterator's start in blocks that it reads. -/
theorem St.same (h : St J S O We k S1 W) (hO : Inn O We) (hS : Off S O) {x : Nat} (hx : O x) : W.heap[x]? = We.heap[x]? := h.fr.block x (hO x hx) fun hs => hS x hs hx
theorem St.below (h : St J S O We k S1 W) (hS : Off S O) {n : Nat} {wD : World} (hb : Below n wD We) (hn : ∀ x, x < n → O x) (hs : n ≤ We.heap.size) : Below n wD W :=
  ⟨h.fr.os.trans hb.os, h.fr.tape.trans hb.tape, h.fr.output.trans hb.output, Nat.le_trans hb.size h.fr.size, fun x hx => (h.fr.block x (by omega) fun hs => hS x hs (hn x hx)).trans (hb.block x hx)⟩

/-- A block that the iterator laid: what it holds. -/
def Mine (We : World) (S1 : Nat → Prop) (W : World) (b : Nat) (o : Obj) : Prop := We.heap.size ≤ b ∧ ¬ S1 b ∧ W.heap[b]? = some o
theorem Mine.lt {o : Obj} {b : Nat} (h : Mine We S1 W b o) : b < W.heap.size := (Array.getElem?_eq_some_iff.1 h.2.2).1
theorem Mine.own {o : Obj} {b : Nat} (h : Mine We S1 W b o) (hf : Fr T W W') (hb : ¬ T b) : Mine We S1 W' b o := ⟨h.1, h.2.1, fr_kept hf h.2.2 hb⟩
theorem Mine.alloc {o : Obj} {b : Nat} (h : Mine We S1 W b o) (o' : Obj) : Mine We S1 (W.alloc o') b o := h.own (T := fun _ => False) ((Fr.refl _ W).alloc o') id
theorem Mine.went {o : Obj} {b : Nat} (h : Mine We S1 W b o) (hb : Below W.heap.size W W') : Mine We S1 W' b o := h.own (T := fun _ => False) (.of_below hb) id
/-- .. behind a call of yield. -/
theorem Mine.then {o : Obj} {b : Nat} (h : Mine We S1 W b o) {S' : Nat → Prop} (he : Ext S' S1 W) (hf : Fr S1 W W') : Mine We S' W' b o :=
  ⟨h.1, fun hs => (he b hs).elim h.2.1 fun h2 => by have := h.lt; omega, fr_kept hf h.2.2 h.2.1⟩
/-- .. behind a range in the iterator: bf is the one box of its own that the rounds turn. -/
theorem Mine.ranged {o : Obj} {b bf : Nat} (h : Mine We S1 W b o) {S' : Nat → Prop} (hne : b ≠ bf) (he : Ext (fun x => S' x ∨ x = bf) (fun x => S1 x ∨ x = bf) W) (hf : Fr (fun x => S1 x ∨ x = bf) W W') : Mine We S' W' b o :=
  ⟨h.1, fun hs => (he b (.inl hs)).elim (fun h2 => h2.elim h.2.1 hne) fun h2 => by have := h.lt; omega, fr_kept hf h.2.2 fun h2 => h2.elim h.2.1 hne⟩
theorem St.new (h : St J S O We k S1 W) {o : Obj} : Mine We S1 (W.alloc o) W.heap.size o :=
  ⟨h.fr.size, fun hs => by have := h.inn _ hs; omega, World.alloc_heap_new _ _⟩

/-- The marks of the ranges that are over. -/
def mark (D : Nat) : Deferred := { target := .collected D, args := #[] }
def Marks (We : World) (S1 : Nat → Prop) (W : World) (ds : List Deferred) : Prop := ∃ L : List Nat, ds = L.map mark ∧ L.Nodup ∧ ∀ D ∈ L, Mine We S1 W D (.deferred (some []))
theorem Marks.nil : Marks We S1 W [] := ⟨[], rfl, List.nodup_nil, fun _ h => by cases h⟩
theorem Marks.own {ds : List Deferred} (h : Marks We S1 W ds) (hf : Fr T W W') (hT : ∀ x, T x → W.heap.size ≤ x ∨ ∃ o, W.heap[x]? = some o ∧ o.isCells = true) : Marks We S1 W' ds := by
  obtain ⟨L, h1, h2, h3⟩ := h
  refine ⟨L, h1, h2, fun D hD => (h3 D hD).own hf fun ht => ?_⟩
  rcases hT D ht with h4 | ⟨o, h4, h5⟩
  · have := (h3 D hD).lt
    omega
  · rw [(h3 D hD).2.2] at h4
    cases h4
    cases h5
theorem Marks.alloc {ds : List Deferred} (h : Marks We S1 W ds) (o : Obj) : Marks We S1 (W.alloc o) ds := h.own (T := fun _ => False) ((Fr.refl _ W).alloc o) fun _ h => h.elim
theorem Marks.then {ds : List Deferred} (h : Marks We S1 W ds) {S' : Nat → Prop} (he : Ext S' S1 W) (hf : Fr S1 W W') : Marks We S' W' ds := by
  obtain ⟨L, h1, h2, h3⟩ := h
  exact ⟨L, h1, h2, fun D hD => (h3 D hD).then he hf⟩
theorem Marks.ranged {ds : List Deferred} {bf D : Nat} (h : Marks We S1 W ds) {S' : Nat → Prop} {o : Obj} (hbf : W.heap[bf]? = some o) (ho : o.isCells = true) (he : Ext (fun x => S' x ∨ x = bf) (fun x => S1 x ∨ x = bf) W) (hf : Fr (fun x => S1 x ∨ x = bf) W W')
    (hD : W.heap.size ≤ D) (hD0 : W'.heap[D]? = some (.deferred (some []))) (hDS : ¬ S' D) (hWe : We.heap.size ≤ D) : Marks We S' W' (mark D :: ds) := by
  obtain ⟨L, h1, h2, h3⟩ := h
  refine ⟨D :: L, by rw [h1]; rfl, List.nodup_cons.2 ⟨fun hm => by have := (h3 D hm).lt; omega, h2⟩, fun x hx => ?_⟩
  rcases List.mem_cons.1 hx with rfl | hx
  · exact ⟨hWe, hDS, hD0⟩
  · refine (h3 x hx).ranged (fun e => ?_) he hf
    subst e
    rw [(h3 x hx).2.2] at hbf
    cases hbf
    cases ho
/-- .. where the rounds were stopped. -/
theorem Marks.rangedX {X : Nat → Prop} {ds : List Deferred} {bf D : Nat} (h : Marks We S1 W ds) (hX : ∀ x, X x → x < We.heap.size) {S' : Nat → Prop} {o : Obj} (hbf : W.heap[bf]? = some o) (ho : o.isCells = true) (he : Ext (fun x => S' x ∨ x = bf) (Or2 (fun x => S1 x ∨ x = bf) X) W) (hf : Fr (Or2 (fun x => S1 x ∨ x = bf) X) W W')
    (hD : W.heap.size ≤ D) (hD0 : W'.heap[D]? = some (.deferred (some []))) (hDS : ¬ S' D) (hWe : We.heap.size ≤ D) : Marks We S' W' (mark D :: ds) := by
  obtain ⟨L, h1, h2, h3⟩ := h
  refine ⟨D :: L, by rw [h1]; rfl, List.nodup_cons.2 ⟨fun hm => by have := (h3 D hm).lt; omega, h2⟩, fun x hx => ?_⟩
  rcases List.mem_cons.1 hx with rfl | hx
  · exact ⟨hWe, hDS, hD0⟩
  · have m := h3 x hx
    have hne : ¬ Or2 (fun x => S1 x ∨ x = bf) X x := fun h => h.elim (fun h => h.elim m.2.1 fun e => by
      subst e
      rw [m.2.2] at hbf
      cases hbf
      cases ho) fun h => by have := hX x h; have := m.1; omega
    exact ⟨m.1, fun hs => (he x (.inl hs)).elim hne fun h => by have := m.lt; omega, fr_kept hf m.2.2 hne⟩
/-- The end of an activation with marks. -/
theorem leaves_marks {n : Nat} {F : Fence} {fn : Func} {tmps : Array Value} {R : Ending → World → Prop} : ∀ (L : List Nat) (w : World), L.Nodup → (∀ D ∈ L, w.heap[D]? = some (.deferred (some []))) →
    (∀ w', Fr (fun x => x ∈ L) w w' → ∃ v, (results fn tmps).run P w' = .ok v w' ∧ R (.returned v) w') → LeavesInM F n P fn tmps R (L.map mark) .returning w
  | [], w, _, _, hR => hR w (.refl _ _)
  | D :: L, w, hn, hk, hR => by
    obtain ⟨h1, h2⟩ := List.nodup_cons.1 hn
    refine ⟨by simp, .inl ⟨D, _, rfl, run_takeDeferred (hk D (List.mem_cons_self ..)), leaves_marks L _ h2 (fun x hx => ?_) fun w' hf => hR w' ?_⟩⟩
    · exact (World.putObj_heap_other fun e => h1 (by rw [← e]; exact hx)).trans (hk x (List.mem_cons_of_mem _ hx))
    · exact ((fr_put w D _).mono (T := fun x => x ∈ D :: L) fun x e => by subst e; exact List.mem_cons_self ..).trans hf fun x hx => .inl (List.mem_cons_of_mem _ hx)
end

/-! ### One cell of a block -/

theorem set_heap' {w : World} {b k : Nat} {cs : Array Value} {T : TypeId} (h : w.heap[b]? = some (.cells cs T (0, 0))) (v : Value) : (w.setCell ⟨b, k, none⟩ v).heap[b]? = some (.cells (cs.setIfInBounds k v) T (0, 0)) := by
  rw [setCell_eq_setRow w b k cs T (0, 0) v h]
  exact setRow_heap w b cs _ T (0, 0) h
theorem grown_set (w : World) (b k : Nat) (v : Value) : w.grownBy (w.setCell ⟨b, k, none⟩ v) (some b) :=
  have h := (Fr.refl (fun x => x = b) w).setCell ⟨b, k, none⟩ rfl v
  ⟨h.os, h.tape, h.output, h.size, fun x hx hne => h.block x hx fun e => hne (by rw [e])⟩

end Go.Proofs.Ytoohnkffclkmhaa.Rg
