/-
  The sets of a grammar in memory: a family of sets of package bits, each in blocks of its own, and the struct that names them; what becomes of it as one of them is written. No function of the program in it.
-/
import Derived.Test.YtoipinnfmjaaaaaGreatDoorMBits
import Derived.Test.YtoipinnfmjaaaaaGreatDoorFirstTabs
import Derived.Test.YtoipinnfmjaaaaaGreatDoorRowKit
namespace Go.Proofs.YtoipinnfmjaaaaaGreatDoor.Fi
open Go.RowKit Go.Maps
open Go.Proofs.YtoipinnfmjaaaaaGreatDoor.Gr (Gram nonB termB top names nameS checkN termB_iff nonB_iff)
open Go.Proofs.YtoipinnfmjaaaaaGreatDoor.Bt (SetAt SetV Keeps OtherV Upto has)
open Go.Proofs.YtoipinnfmjaaaaaGreatDoor.Rw (Bk)
set_option linter.unusedVariables false

/-- Which set: what can be empty, what a symbol begins with, what stands behind it, one more. -/
inductive Ix : Type
  | e : Ix
  | f : Nat → Ix
  | g : Nat → Ix
  | o : Ix

/-- Sets, each in blocks of its own. -/
structure Fam (I : Ix → Prop) (P D : Ix → Nat) (R : Ix → Nat) (V : Ix → Nat → Bool) (w : World) : Prop where
  at_ : ∀ k, I k → SetAt (P k) (D k) (R k) (V k) w
  inj : ∀ j k, I j → I k → D j = D k → j = k
  off : ∀ j k, I j → I k → D j ≠ P k
theorem set_went' {p d n : Nat} {B : Nat → Bool} {w w' : World} (h : SetAt p d n B w) (hb : Below w.heap.size w w') : SetAt p d n B w' := h.below hb h.inp h.ind
theorem Fam.went {I : Ix → Prop} {P D R : Ix → Nat} {V : Ix → Nat → Bool} {w w' : World} (h : Fam I P D R V w) (hb : Below w.heap.size w w') : Fam I P D R V w' := ⟨fun k hk => set_went' (h.at_ k hk) hb, h.inj, h.off⟩

open Classical in
/-- One of the sets is another one. -/
noncomputable def upd (V : Ix → Nat → Bool) (k : Ix) (B : Nat → Bool) : Ix → Nat → Bool := fun j => if j = k then B else V j
theorem upd_hit (V : Ix → Nat → Bool) (k : Ix) (B : Nat → Bool) : upd V k B k = B := by unfold upd; rw [if_pos rfl]
theorem upd_miss (V : Ix → Nat → Bool) {j k : Ix} (B : Nat → Bool) (h : j ≠ k) : upd V k B j = V j := by unfold upd; rw [if_neg h]
theorem upd_same (V : Ix → Nat → Bool) (k : Ix) : upd V k (V k) = V := by
  funext j
  by_cases h : j = k
  · subst h
    rw [upd_hit]
  · rw [upd_miss _ _ h]
theorem upd_upd (V : Ix → Nat → Bool) (k : Ix) (B C : Nat → Bool) : upd (upd V k B) k C = upd V k C := by
  funext j
  by_cases h : j = k
  · subst h
    rw [upd_hit, upd_hit]
  · rw [upd_miss _ _ h, upd_miss _ _ h, upd_miss _ _ h]
theorem Fam.wrote {I : Ix → Prop} {P D R : Ix → Nat} {V : Ix → Nat → Bool} {w w' : World} (h : Fam I P D R V w) {k : Ix} (hk : I k) {B : Nat → Bool} (hs : SetAt (P k) (D k) (R k) B w') (hK : Keeps (D k) w w') : Fam I P D R (upd V k B) w' := by
  refine ⟨fun j hj => ?_, h.inj, h.off⟩
  by_cases e : j = k
  · subst e
    rw [upd_hit]
    exact hs
  · rw [upd_miss _ _ e]
    exact (h.at_ j hj).keeps hK (fun e2 => h.off k j hk hj e2.symm) (fun e2 => e (h.inj j k hj hk e2))
theorem Fam.other {I : Ix → Prop} {P D R : Ix → Nat} {V : Ix → Nat → Bool} {w : World} (h : Fam I P D R V w) {j k : Ix} (hk : I k) (hj : I j) (hne : j ≠ k) : OtherV (D k) (.pointer (some ⟨P j, 0, none⟩)) (R j) (V j) w :=
  .at_ (h.at_ j hj) (fun e => h.off k j hk hj e.symm) (fun e => hne (h.inj j k hj hk e))

/-- How many numbers a set has room for. -/
def rm (t n : Nat) : Ix → Nat
  | .e => n
  | _ => t + 1

/-- The struct and its sets. -/
structure SAt (I : Ix → Prop) (P D : Ix → Nat) (p q1 q2 t n : Nat) (V : Ix → Nat → Bool) (w : World) : Prop where
  box : Bk p #[.int .i64 (t : Int), .int .i64 (n : Int), .pointer (some ⟨P .e, 0, none⟩), .slice (some ⟨q1, 0, none⟩) n n, .slice (some ⟨q2, 0, none⟩) n n] 58 w
  firsts : ∀ s, s < n → w.cell? ⟨q1, s, none⟩ = some (.pointer (some ⟨P (.f s), 0, none⟩))
  follows : ∀ s, s < n → w.cell? ⟨q2, s, none⟩ = some (if t < s then .pointer (some ⟨P (.g s), 0, none⟩) else .pointer none)
  fam : Fam I P D (rm t n) V w
  off : ∀ k, I k → D k ≠ p ∧ D k ≠ q1 ∧ D k ≠ q2
  ie : I .e
  if_ : ∀ s, s < n → I (.f s)
  ig : ∀ s, t < s → s < n → I (.g s)
  tn : t < n
  n4 : n ≤ 4000
theorem SAt.went {I : Ix → Prop} {P D : Ix → Nat} {p q1 q2 t n : Nat} {V : Ix → Nat → Bool} {w w' : World} (h : SAt I P D p q1 q2 t n V w) (hb : Below w.heap.size w w') : SAt I P D p q1 q2 t n V w' :=
  ⟨h.box.went hb, fun s hs => Gr.cell_later hb (h.firsts s hs), fun s hs => Gr.cell_later hb (h.follows s hs), h.fam.went hb, h.off, h.ie, h.if_, h.ig, h.tn, h.n4⟩
theorem SAt.wrote {I : Ix → Prop} {P D : Ix → Nat} {p q1 q2 t n : Nat} {V : Ix → Nat → Bool} {w w' : World} (h : SAt I P D p q1 q2 t n V w) {k : Ix} (hk : I k) {B : Nat → Bool} (hs : SetAt (P k) (D k) (rm t n k) B w') (hK : Keeps (D k) w w') : SAt I P D p q1 q2 t n (upd V k B) w' := by
  have ho := h.off k hk
  have hF : Sep.Fr (fun b => b = D k) w w' := ⟨hK.os, hK.tape, hK.output, hK.size, fun i hi hb => hK.block i hi hb⟩
  exact ⟨h.box.fr hF (fun e => ho.1 e.symm), fun s hs => hF.cell (h.firsts s hs) (fun e => ho.2.1 e.symm), fun s hs => hF.cell (h.follows s hs) (fun e => ho.2.2 e.symm), h.fam.wrote hk hs hK, h.off, h.ie, h.if_, h.ig, h.tn, h.n4⟩

/-- The tables as sets. -/
def tv (C : Int → Bool) (F B : Int → Int → Bool) (O : Nat → Bool) : Ix → Nat → Bool
  | .e => rw' C
  | .f s => rw' (F (s : Int))
  | .g s => rw' (B (s : Int))
  | .o => O
/-- The tables say nothing of what is no symbol. -/
structure TOk (t n : Nat) (C : Int → Bool) (F B : Int → Int → Bool) : Prop where
  c : Rng C n
  f1 : ∀ x, Rng (F x) (t + 1)
  f2 : ∀ x i, F x i = true → 0 ≤ x ∧ x < (n : Int)
  b1 : ∀ x, Rng (B x) (t + 1)
  b2 : ∀ x i, B x i = true → (t : Int) < x ∧ x < (n : Int)
theorem tv_e {C D : Int → Bool} {F B : Int → Int → Bool} {O : Nat → Bool} {V : Nat → Bool} (h : V = rw' D) : upd (tv C F B O) .e V = tv D F B O := by
  funext j
  cases j with
  | e => rw [upd_hit, h]; rfl
  | f s => rw [upd_miss _ _ (by intro h; cases h)]; rfl
  | g s => rw [upd_miss _ _ (by intro h; cases h)]; rfl
  | o => rw [upd_miss _ _ (by intro h; cases h)]; rfl
theorem tv_f {C : Int → Bool} {F H B : Int → Int → Bool} {O : Nat → Bool} {V : Nat → Bool} {s : Nat} (h : V = rw' (H (s : Int))) (ho : ∀ x : Int, x ≠ (s : Int) → H x = F x) : upd (tv C F B O) (.f s) V = tv C H B O := by
  funext j
  cases j with
  | e => rw [upd_miss _ _ (by intro h; cases h)]; rfl
  | f k =>
    by_cases e : k = s
    · subst e
      rw [upd_hit, h]; rfl
    · rw [upd_miss _ _ (by intro h; injection h with h; exact e h)]
      show rw' (F (k : Int)) = rw' (H (k : Int))
      rw [ho _ (by omega)]
  | g s => rw [upd_miss _ _ (by intro h; cases h)]; rfl
  | o => rw [upd_miss _ _ (by intro h; cases h)]; rfl
theorem tv_g {C : Int → Bool} {F B H : Int → Int → Bool} {O : Nat → Bool} {V : Nat → Bool} {s : Nat} (h : V = rw' (H (s : Int))) (ho : ∀ x : Int, x ≠ (s : Int) → H x = B x) : upd (tv C F B O) (.g s) V = tv C F H O := by
  funext j
  cases j with
  | e => rw [upd_miss _ _ (by intro h; cases h)]; rfl
  | f s => rw [upd_miss _ _ (by intro h; cases h)]; rfl
  | g k =>
    by_cases e : k = s
    · subst e
      rw [upd_hit, h]; rfl
    · rw [upd_miss _ _ (by intro h; injection h with h; exact e h)]
      show rw' (B (k : Int)) = rw' (H (k : Int))
      rw [ho _ (by omega)]
  | o => rw [upd_miss _ _ (by intro h; cases h)]; rfl
theorem tv_o {C : Int → Bool} {F B : Int → Int → Bool} {O V : Nat → Bool} : upd (tv C F B O) .o V = tv C F B V := by
  funext j
  cases j with
  | o => rw [upd_hit]; rfl
  | e => rw [upd_miss _ _ (by intro h; cases h)]; rfl
  | f s => rw [upd_miss _ _ (by intro h; cases h)]; rfl
  | g s => rw [upd_miss _ _ (by intro h; cases h)]; rfl

/-- A new set beside them. -/
theorem SAt.more {I : Ix → Prop} {P D : Ix → Nat} {p q1 q2 t n : Nat} {C : Int → Bool} {F B : Int → Int → Bool} {O : Nat → Bool} {w w' : World} (h : SAt I P D p q1 q2 t n (tv C F B O) w) (hI : ¬ I .o) (hb : Below w.heap.size w w') {po d : Nat} {N : Nat → Bool} (hs : SetAt po d (t + 1) N w') (hp : w.heap.size ≤ po) (hd : w.heap.size ≤ d) :
    ∃ I' P' D', SAt I' P' D' p q1 q2 t n (tv C F B N) w' ∧ I' .o ∧ P' .o = po ∧ D' .o = d := by
  have hq1 : q1 < w.heap.size := World.block_lt_of_cell? w ⟨q1, 0, none⟩ (h.firsts 0 (by have := h.tn; omega))
  have hq2 : q2 < w.heap.size := World.block_lt_of_cell? w ⟨q2, 0, none⟩ (h.follows 0 (by have := h.tn; omega))
  have hp0 := h.box.lt
  refine ⟨fun k => I k ∨ k = .o, fun k => match k with | .o => po | k => P k, fun k => match k with | .o => d | k => D k, ⟨(h.went hb).box, ?_, ?_, ⟨?_, ?_, ?_⟩, ?_, .inl h.ie, fun s hs => .inl (h.if_ s hs), fun s h1 h2 => .inl (h.ig s h1 h2), h.tn, h.n4⟩, .inr rfl, rfl, rfl⟩
  · exact (h.went hb).firsts
  · exact (h.went hb).follows
  · rintro (_ | s | s | _) hk
    · exact (h.went hb).fam.at_ .e h.ie
    · rcases hk with hk | hk
      · exact (h.went hb).fam.at_ (.f s) hk
      · cases hk
    · rcases hk with hk | hk
      · exact (h.went hb).fam.at_ (.g s) hk
      · cases hk
    · exact hs
  · have key : ∀ j, I j → D j ≠ d := fun j hj e => by have := (h.fam.at_ j hj).ind; omega
    rintro (_ | s | s | _) (_ | s' | s' | _) hj hk he
    all_goals first
      | rfl
      | exact absurd he (key _ (by rcases hj with hj | hj; · exact hj
                                   · cases hj))
      | exact absurd he.symm (key _ (by rcases hk with hk | hk; · exact hk
                                        · cases hk))
      | exact h.fam.inj _ _ (by rcases hj with hj | hj; · exact hj
                                · cases hj) (by rcases hk with hk | hk; · exact hk
                                                · cases hk) he
  · have k1 : ∀ j, I j → D j ≠ po := fun j hj e => by have := (h.fam.at_ j hj).ind; omega
    have k2 : ∀ j, I j → d ≠ P j := fun j hj e => by have := (h.fam.at_ j hj).inp; omega
    rintro (_ | s | s | _) (_ | s' | s' | _) hj hk
    all_goals first
      | exact hs.apart.symm
      | exact k1 _ (by rcases hj with hj | hj; · exact hj
                       · cases hj)
      | exact k2 _ (by rcases hk with hk | hk; · exact hk
                       · cases hk)
      | exact h.fam.off _ _ (by rcases hj with hj | hj; · exact hj
                                · cases hj) (by rcases hk with hk | hk; · exact hk
                                                · cases hk)
  · rintro (_ | s | s | _) hk
    · exact h.off .e h.ie
    · rcases hk with hk | hk
      · exact h.off _ hk
      · cases hk
    · rcases hk with hk | hk
      · exact h.off _ hk
      · cases hk
    · show d ≠ p ∧ d ≠ q1 ∧ d ≠ q2
      omega

/-- The sets of a grammar, or nil: no sets at all. -/
def VS (nl : Bool) (I : Ix → Prop) (P D : Ix → Nat) (v : Value) (t n : Nat) (C : Int → Bool) (F B : Int → Int → Bool) (O : Nat → Bool) (w : World) : Prop :=
  (nl = true ∧ v = .pointer none ∧ C = (fun _ => false) ∧ F = (fun _ _ => false) ∧ B = (fun _ _ => false)) ∨ (nl = false ∧ ∃ p q1 q2, v = .pointer (some ⟨p, 0, none⟩) ∧ SAt I P D p q1 q2 t n (tv C F B O) w)
theorem VS.went {nl : Bool} {I : Ix → Prop} {P D : Ix → Nat} {v : Value} {t n : Nat} {C : Int → Bool} {F B : Int → Int → Bool} {O : Nat → Bool} {w w' : World} (h : VS nl I P D v t n C F B O w) (hb : Below w.heap.size w w') : VS nl I P D v t n C F B O w' := by
  rcases h with h | ⟨h1, p, q1, q2, h2, h3⟩
  · exact .inl h
  · exact .inr ⟨h1, p, q1, q2, h2, h3.went hb⟩
theorem Below.frN {S : Nat → Prop} {a w w' : World} (h : Sep.Fr S a w) (hb : Below w.heap.size w w') : Sep.Fr S a w' := h.trans (Sep.Fr.of_below (S := S) hb) fun _ hk => .inl hk

end Go.Proofs.YtoipinnfmjaaaaaGreatDoor.Fi
