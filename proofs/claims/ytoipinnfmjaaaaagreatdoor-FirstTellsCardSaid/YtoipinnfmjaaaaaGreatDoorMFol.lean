/-
  Package first: addFollow, the walk. Condition: the sets are those of a grammar; the rule is one of its rules.
  Package first: addFollow: what a rule adds behind the symbols of its right side. Condition: the sets are those of a grammar; the rule is one of its rules.
-/
import Derived.Test.YtoipinnfmjaaaaaGreatDoorMSets
namespace Go.Proofs.YtoipinnfmjaaaaaGreatDoor.Fi
open Go.RowKit Go.Maps
open Go.Proofs.YtoipinnfmjaaaaaGreatDoor.Gr (Gram nonB termB top names nameS checkN termB_iff nonB_iff Is boxed step cell_later bool_of int_of ivs iv int_at drawn)
open Go.Proofs.YtoipinnfmjaaaaaGreatDoor.Bt (SetAt SetV Keeps OtherV Upto has orr gains putR putI)
open Go.Proofs.YtoipinnfmjaaaaaGreatDoor.Rw (Bk)
set_option linter.unusedVariables false

theorem reads_drop {L : List Int} {b o : Nat} {w : World} (h : Sep.Reads (some ⟨b, o, none⟩) (ivs L) w) (m : Nat) : Sep.Reads (some ⟨b, o + m, none⟩) (ivs (L.drop m)) w := by
  have e : ivs (L.drop m) = (ivs L).drop m := by unfold ivs; rw [List.map_drop]
  rw [e]
  intro i hi
  have hi2 : m + i < (ivs L).length := by
    rw [List.length_drop] at hi
    omega
  obtain ⟨b', o', e, hc⟩ := h (m + i) hi2
  injection e with e
  injection e with e1 e2 _
  subst e1
  subst e2
  refine ⟨b, o + m, rfl, ?_⟩
  rw [List.getElem_drop, Nat.add_assoc]
  exact hc
theorem LOk.drop {L : List Int} {c : Nat} (h : LOk L c) (m : Nat) : LOk (L.drop m) (c - m) :=
  ⟨fun x hx => h.fit x (List.mem_of_mem_drop hx), by rw [List.length_drop]; have := h.len; omega, by rw [List.length_drop]; have := h.cap; omega⟩

/-- A row of what stands behind is joined to another one. -/
def OrEnd (p d m : Nat) (V U : Nat → Bool) (w : World) (e : Ending) (w' : World) : Prop :=
  ∃ g, e = .returned (.bool g) ∧ (g = true ↔ ∃ i : Nat, U i = true ∧ V i = false) ∧ SetAt p d m (fun i => V i || U i) w' ∧ Keeps d w w'
theorem or_row {I : Ix → Prop} {P D : Ix → Nat} {p q1 q2 t n : Nat} {C : Int → Bool} {F B : Int → Int → Bool} {O V : Nat → Bool} {s x : Nat} (w : World) (h : SAt I P D p q1 q2 t n (upd (tv C F B O) (.g x) V) w) (hx : t < x ∧ x < n) (hs : t < s ∧ s < n) (hr : Rng (B (s : Int)) (t + 1)) (he : s = x → ∀ i : Nat, B (s : Int) (i : Int) = true → V i = true) :
    Calls Tryz.prog 49 #[.pointer (some ⟨P (.g x), 0, none⟩), .pointer (some ⟨P (.g s), 0, none⟩)] w (OrEnd (P (.g x)) (D (.g x)) (t + 1) V (rw' (B (s : Int))) w) := by
  have hk := h.ig x hx.1 hx.2
  have ht := h.target hk rfl
  by_cases e : s = x
  · subst e
    refine (Bt.or_self w ht).mono ?_
    rintro e w' ⟨rfl, h1, h2⟩
    have E : (fun i => V i || rw' (B (s : Int)) i) = V := by
      funext i
      unfold rw'
      cases k : B (s : Int) (i : Int) with
      | false => simp
      | true => rw [he rfl i k]; rfl
    refine ⟨false, rfl, ⟨(fun k => by cases k), fun ⟨i, k1, k2⟩ => ?_⟩, by rw [E]; exact h1, h2⟩
    rw [he rfl i k1] at k2
    cases k2
  · have ho := h.fam.other hk (h.ig s hs.1 hs.2) (fun k => e (by injection k))
    rw [upd_miss _ _ (fun k => e (by injection k))] at ho
    refine (Bt.or_any w ht ho).mono ?_
    rintro e w' ⟨rfl, h1, h2⟩
    have E : orr V (t + 1) (tv C F B O (.g s)) = fun i => V i || rw' (B (s : Int)) i := by
      funext i
      unfold orr
      show (V i || (rw' (B (s : Int)) i && _)) = _
      cases k : rw' (B (s : Int)) i with
      | false => simp
      | true =>
        have := (hr _ k).2
        have h3 : i < t + 1 := by omega
        simp [h3]
    refine ⟨_, rfl, ?_, by rw [← E]; exact h1, h2⟩
    unfold gains
    rw [List.any_eq_true]
    constructor
    · rintro ⟨i, _, k⟩
      rw [Bool.and_eq_true] at k
      exact ⟨i, k.1, by simpa using k.2⟩
    · rintro ⟨i, k1, k2⟩
      refine ⟨i, List.mem_range.2 (by have := (hr _ k1).2; omega), ?_⟩
      rw [Bool.and_eq_true]
      exact ⟨k1, by rw [k2]; rfl⟩

theorem tok_addB {t n : Nat} {C : Int → Bool} {F B : Int → Int → Bool} (h : TOk t n C F B) (r : Int × List Int) (k : Nat) {x : Int} (h0 : (t : Int) < x) (h1 : x < (n : Int)) : TOk t n C F (addB C F B r k x) := by
  refine ⟨h.c, h.f1, h.f2, fun y i e => ?_, fun y i e => ?_⟩
  · unfold addB behP at e
    simp only [Bool.or_eq_true, Bool.and_eq_true, decide_eq_true_iff] at e
    rcases e with e | ⟨_, e | ⟨_, e⟩⟩
    · exact h.b1 y i e
    · exact lineB_rng h.f1 _ i e
    · exact h.b1 _ i e
  · unfold addB at e
    simp only [Bool.or_eq_true, Bool.and_eq_true, decide_eq_true_iff] at e
    rcases e with e | ⟨e, _⟩
    · exact h.b2 y i e
    · subst e
      exact ⟨h0, h1⟩
/-- A nonterminal of a right side has been given what can stand behind it. -/
theorem fol_step {G : Gram} {n t : Nat} {B0 B : Int → Int → Bool} {j k : Nat} {b0 b b1 g : Bool} (h : TriedB G n (canB G) (fstB G) B0 j k B (b0 || b)) (hT : TOk t n (canB G) (fstB G) B) (hj : j < G.rules.length) (hk : k < G.rules[j].2.length) (hn : nonB G G.rules[j].2[k] = true) (h0 : 0 ≤ G.rules[j].2[k]) (h1 : G.rules[j].2[k] < (n : Int))
    (e1 : b1 = true ↔ ∃ i : Nat, lineB (canB G) (fstB G) (G.rules[j].2.drop (k + 1)) (i : Int) = true ∧ B G.rules[j].2[k] (i : Int) = false)
    (e2 : g = true ↔ allC (canB G) (G.rules[j].2.drop (k + 1)) = true ∧ ∃ i : Nat, B G.rules[j].1 (i : Int) = true ∧ (B G.rules[j].2[k] (i : Int) || lineB (canB G) (fstB G) (G.rules[j].2.drop (k + 1)) (i : Int)) = false) (m : Bool) (hm : m = (b || b1 || g)) :
    TriedB G n (canB G) (fstB G) B0 j (k + 1) (addB (canB G) (fstB G) B G.rules[j] k G.rules[j].2[k]) (b0 || m) := by
  have := h.step (c := b1 || g) (just_b G) hj hk hn h0 h1 ?_
  · rw [hm, ← Bool.or_assoc, ← Bool.or_assoc]
    rw [← Bool.or_assoc] at this
    exact this
  · rw [Bool.or_eq_true, e1, e2]
    constructor
    · rintro (⟨i, k1, k2⟩ | ⟨ka, i, k1, k2⟩)
      · refine ⟨(i : Int), ?_, k2⟩
        unfold behP
        rw [k1]
        rfl
      · rw [Bool.or_eq_false_iff] at k2
        refine ⟨(i : Int), ?_, k2.1⟩
        unfold behP
        rw [ka, k1]
        simp
    · rintro ⟨t', k1, k2⟩
      have hr : 0 ≤ t' := by
        unfold behP at k1
        simp only [Bool.or_eq_true, Bool.and_eq_true] at k1
        rcases k1 with k1 | ⟨_, k1⟩
        · exact (lineB_rng hT.f1 _ t' k1).1
        · exact (hT.b1 _ t' k1).1
      obtain ⟨i, rfl⟩ : ∃ i : Nat, t' = (i : Int) := ⟨t'.toNat, by omega⟩
      unfold behP at k1
      cases hl : lineB (canB G) (fstB G) (G.rules[j].2.drop (k + 1)) (i : Int) with
      | true => exact .inl ⟨i, hl, k2⟩
      | false =>
        rw [hl, Bool.false_or, Bool.and_eq_true] at k1
        exact .inr ⟨k1.1, i, k1.2, by rw [k2, hl]; rfl⟩

/-- A rule has been tried on what stands behind. -/
def AddB (I : Ix → Prop) (P D : Ix → Nat) (p q1 q2 t n : Nat) (G : Gram) (B0 : Int → Int → Bool) (j : Nat) (b0 : Bool) (O : Nat → Bool) (w : World) (e : Ending) (w' : World) : Prop :=
  ∃ b B, e = .returned (.bool b) ∧ TriedB G n (canB G) (fstB G) B0 (j + 1) 0 B (b0 || b) ∧ TOk t n (canB G) (fstB G) B ∧ SAt I P D p q1 q2 t n (tv (canB G) (fstB G) B O) w' ∧ Sep.Fr (Ds I D) w w'
/-- Behind k symbols. -/
structure FSt (I : Ix → Prop) (P D : Ix → Nat) (p q1 q2 t n : Nat) (G : Gram) (B0 : Int → Int → Bool) (j k : Nat) (b0 b : Bool) (O : Nat → Bool) (B : Int → Int → Bool) (W : World) (u0 u1 : Value) (w : World) : Prop where
  tr : TriedB G n (canB G) (fstB G) B0 j k B (b0 || b)
  ok : TOk t n (canB G) (fstB G) B
  s : SAt I P D p q1 q2 t n (tv (canB G) (fstB G) B O) w
  fr : Sep.Fr (Ds I D) W w
  box : Bk W.heap.size #[u0, u1] 40 w
def FoRel (I : Ix → Prop) (P D : Ix → Nat) (p q1 q2 t n : Nat) (G : Gram) (B0 : Int → Int → Bool) (j : Nat) (b0 : Bool) (O : Nat → Bool) (W : World) (u0 u1 : Value) (l : Nat) (m i : Value) (w : World) : Prop :=
  ∃ (k : Nat) (b : Bool) (B : Int → Int → Bool), k ≤ l ∧ i = .int .i64 k ∧ m = .bool b ∧ FSt I P D p q1 q2 t n G B0 j k b0 b O B W u0 u1 w

theorem ds_lt {I : Ix → Prop} {P D : Ix → Nat} {p q1 q2 t n : Nat} {V : Ix → Nat → Bool} {w : World} (h : SAt I P D p q1 q2 t n V w) : ¬ Ds I D w.heap.size := fun ⟨k, hk, e⟩ => by
  have := (h.fam.at_ k hk).ind
  omega
theorem FSt.went {I : Ix → Prop} {P D : Ix → Nat} {p q1 q2 t n : Nat} {G : Gram} {B0 : Int → Int → Bool} {j k : Nat} {b0 b : Bool} {O : Nat → Bool} {B : Int → Int → Bool} {W : World} {u0 u1 : Value} {w w' : World} (h : FSt I P D p q1 q2 t n G B0 j k b0 b O B W u0 u1 w) (hb : Below w.heap.size w w') : FSt I P D p q1 q2 t n G B0 j k b0 b O B W u0 u1 w' :=
  ⟨h.tr, h.ok, h.s.went hb, Rw.fr_then h.fr hb, h.box.went hb⟩

end Go.Proofs.YtoipinnfmjaaaaaGreatDoor.Fi

namespace Go.Proofs.YtoipinnfmjaaaaaGreatDoor.Fi
open Go.RowKit Go.Maps
open Go.Proofs.YtoipinnfmjaaaaaGreatDoor.Gr (Gram nonB termB top names nameS checkN termB_iff nonB_iff Is boxed step cell_later bool_of int_of ivs iv int_at drawn)
open Go.Proofs.YtoipinnfmjaaaaaGreatDoor.Bt (SetAt SetV Keeps OtherV Upto has orr gains putR putI)
open Go.Proofs.YtoipinnfmjaaaaaGreatDoor.Rw (Bk)
set_option linter.unusedVariables false

/-- The slice behind a symbol: where it lies, and its capacity. -/
def BehA (a : Option Addr) (cc bb o k l c : Nat) : Prop := (a = some ⟨bb, o + (k + 1), none⟩ ∧ cc = c - (k + 1)) ∨ (a = some ⟨bb, o, none⟩ ∧ cc = 0 ∧ l ≤ k + 1)
theorem reads_beh {L : List Int} {a : Option Addr} {cc bb o k c : Nat} {w : World} (h : Sep.Reads (some ⟨bb, o, none⟩) (ivs L) w) (ha : BehA a cc bb o k L.length c) : Sep.Reads a (ivs (L.drop (k + 1))) w := by
  rcases ha with ⟨rfl, _⟩ | ⟨rfl, _, hl⟩
  · exact reads_drop h (k + 1)
  · rw [List.drop_of_length_le hl]
    exact .nil _ _
theorem lok_beh {L : List Int} {a : Option Addr} {cc bb o k c : Nat} (h : LOk L c) (ha : BehA a cc bb o k L.length c) : LOk (L.drop (k + 1)) cc := by
  rcases ha with ⟨_, rfl⟩ | ⟨_, rfl, hl⟩
  · exact h.drop (k + 1)
  · rw [List.drop_of_length_le hl]
    exact ⟨(fun x hx => by cases hx), by simp, by simp⟩
theorem fol_step' {G : Gram} {n t : Nat} {B0 B : Int → Int → Bool} {j k : Nat} {b0 b : Bool} (h : TriedB G n (canB G) (fstB G) B0 j k B (b0 || b)) (hT : TOk t n (canB G) (fstB G) B) (hj : j < G.rules.length) {s : Int} {R : List Int} (hr : G.rules[j] = (s, R)) (hk : k < R.length) {x : Int} (hx : R[k] = x) (hn : nonB G x = true) (h0 : 0 ≤ x) (h1 : x < (n : Int)) :
    ∀ b1 g m : Bool, (b1 = true ↔ ∃ i : Nat, lineB (canB G) (fstB G) (R.drop (k + 1)) (i : Int) = true ∧ B x (i : Int) = false) →
      (g = true ↔ allC (canB G) (R.drop (k + 1)) = true ∧ ∃ i : Nat, B s (i : Int) = true ∧ (B x (i : Int) || lineB (canB G) (fstB G) (R.drop (k + 1)) (i : Int)) = false) → m = (b || b1 || g) →
      TriedB G n (canB G) (fstB G) B0 j (k + 1) (addB (canB G) (fstB G) B (s, R) k x) (b0 || m) := by
  intro b1 g m e1 e2 hm
  subst hx
  have e : R = G.rules[j].2 := by rw [hr]
  have es : s = G.rules[j].1 := by rw [hr]
  subst es
  subst e
  exact fol_step h hT hj hk hn h0 h1 e1 e2 m hm
theorem skip' {G : Gram} {n : Nat} {B0 B : Int → Int → Bool} {j k : Nat} {b : Bool} (h : TriedB G n (canB G) (fstB G) B0 j k B b) (hj : j < G.rules.length) {s : Int} {R : List Int} (hr : G.rules[j] = (s, R)) (hs : ∀ hk : k < R.length, nonB G R[k] = false) : TriedB G n (canB G) (fstB G) B0 j (k + 1) B b := by
  have e : R = G.rules[j].2 := by rw [hr]
  subst e
  exact h.skip hj hs
theorem next' {G : Gram} {n : Nat} {B0 B : Int → Int → Bool} {j k : Nat} {b : Bool} (h : TriedB G n (canB G) (fstB G) B0 j k B b) (hj : j < G.rules.length) {s : Int} {R : List Int} (hr : G.rules[j] = (s, R)) (hk : ¬ k < R.length) : TriedB G n (canB G) (fstB G) B0 (j + 1) 0 B b := by
  have e : R = G.rules[j].2 := by rw [hr]
  subst e
  exact h.next hj hk
theorem addB_row0 {C : Int → Bool} {F B : Int → Int → Bool} {s x : Int} {R : List Int} {k : Nat} (ha : allC C (R.drop (k + 1)) = false) : (fun i : Nat => B x (i : Int) || lineB C F (R.drop (k + 1)) (i : Int)) = rw' (addB C F B (s, R) k x x) := by
  funext i
  unfold rw' addB behP
  dsimp only
  rw [ha]
  simp
theorem addB_row1 {C : Int → Bool} {F B : Int → Int → Bool} {s x : Int} {R : List Int} {k : Nat} (ha : allC C (R.drop (k + 1)) = true) : (fun i : Nat => (B x (i : Int) || lineB C F (R.drop (k + 1)) (i : Int)) || rw' (B s) i) = rw' (addB C F B (s, R) k x x) := by
  funext i
  unfold rw' addB behP
  dsimp only
  rw [ha]
  simp [Bool.or_assoc]
theorem addB_other {C : Int → Bool} {F B : Int → Int → Bool} {r : Int × List Int} {k : Nat} {x : Int} (y : Int) (h : y ≠ x) : addB C F B r k x y = B y := by
  funext t
  unfold addB
  rw [decide_eq_false h]
  simp
/-- What the joining of the head adds to a row. -/
theorem jn_row {C : Int → Bool} {F : Int → Int → Bool} {Q : Int → Bool} {L : List Int} : jn (rw' Q) F (L.take (headN C L)) = fun i : Nat => Q (i : Int) || lineB C F L (i : Int) := by
  funext i
  unfold jn rw'
  rw [head_line]
/-- Behind the joining. -/
structure JSt (I : Ix → Prop) (P D : Ix → Nat) (p q1 q2 t n : Nat) (C : Int → Bool) (F B : Int → Int → Bool) (O : Nat → Bool) (x : Nat) (V : Nat → Bool) (W : World) (u0 u1 : Value) (w : World) : Prop where
  s : SAt I P D p q1 q2 t n (upd (tv C F B O) (.g x) V) w
  fr : Sep.Fr (Ds I D) W w
  box : Bk W.heap.size #[u0, u1] 40 w
theorem JSt.went {I : Ix → Prop} {P D : Ix → Nat} {p q1 q2 t n : Nat} {C : Int → Bool} {F B : Int → Int → Bool} {O : Nat → Bool} {x : Nat} {V : Nat → Bool} {W : World} {u0 u1 : Value} {w w' : World} (h : JSt I P D p q1 q2 t n C F B O x V W u0 u1 w) (hb : Below w.heap.size w w') : JSt I P D p q1 q2 t n C F B O x V W u0 u1 w' :=
  ⟨h.s.went hb, Rw.fr_then h.fr hb, h.box.went hb⟩
theorem JSt.put {I : Ix → Prop} {P D : Ix → Nat} {p q1 q2 t n : Nat} {C : Int → Bool} {F B : Int → Int → Bool} {O : Nat → Bool} {x : Nat} {V U : Nat → Bool} {W : World} {u0 u1 : Value} {w w' : World} (h : JSt I P D p q1 q2 t n C F B O x V W u0 u1 w) (hD : ¬ Ds I D W.heap.size) (hx : t < x ∧ x < n) (hs : SetAt (P (.g x)) (D (.g x)) (t + 1) U w') (hk : Keeps (D (.g x)) w w') : JSt I P D p q1 q2 t n C F B O x U W u0 u1 w' := by
  have hg := h.s.ig x hx.1 hx.2
  exact ⟨h.s.wrote2 hg rfl hs hk, h.fr.trans (fr_keeps hg hk) fun _ h => .inl h, h.box.fr (fr_keeps hg hk) hD⟩

theorem FSt.j {I : Ix → Prop} {P D : Ix → Nat} {p q1 q2 t n : Nat} {G : Gram} {B0 : Int → Int → Bool} {j k : Nat} {b0 b : Bool} {O : Nat → Bool} {B : Int → Int → Bool} {W : World} {u0 u1 : Value} {w : World} (h : FSt I P D p q1 q2 t n G B0 j k b0 b O B W u0 u1 w) (x : Nat) :
    JSt I P D p q1 q2 t n (canB G) (fstB G) B O x (rw' (B (x : Int))) W u0 u1 w :=
  ⟨by rw [show rw' (B (x : Int)) = tv (canB G) (fstB G) B O (.g x) from rfl, upd_same]; exact h.s, h.fr, h.box⟩
theorem JSt.fst {I : Ix → Prop} {P D : Ix → Nat} {p q1 q2 t n : Nat} {G : Gram} {B0 : Int → Int → Bool} {j k k' : Nat} {b0 b : Bool} {O : Nat → Bool} {B : Int → Int → Bool} {x : Nat} {V : Nat → Bool} {W : World} {u0 u1 : Value} {w : World} {r : Int × List Int} (h : JSt I P D p q1 q2 t n (canB G) (fstB G) B O x V W u0 u1 w)
    (hV : V = rw' (addB (canB G) (fstB G) B r k (x : Int) (x : Int))) (hT : TOk t n (canB G) (fstB G) (addB (canB G) (fstB G) B r k (x : Int))) (hTr : TriedB G n (canB G) (fstB G) B0 j k' (addB (canB G) (fstB G) B r k (x : Int)) (b0 || b)) :
    FSt I P D p q1 q2 t n G B0 j k' b0 b O (addB (canB G) (fstB G) B r k (x : Int)) W u0 u1 w :=
  ⟨hTr, hT, by have := h.s; rwa [tv_g hV fun y hy => addB_other y hy] at this, h.fr, h.box⟩

set_option maxRecDepth 100000 in
set_option maxHeartbeats 16000000 in
theorem addB_at {I : Ix → Prop} {P D : Ix → Nat} {p q1 q2 t n : Nat} {G : Gram} {B0 B : Int → Int → Bool} {O : Nat → Bool} (W0 w : World) (h : SAt I P D p q1 q2 t n (tv (canB G) (fstB G) B O) w) (hT : TOk t n (canB G) (fstB G) B) (hb0 : Below W0.heap.size W0 w) (hD : ∀ k, I k → W0.heap.size ≤ D k)
    (ht : t = G.terms.length) (hn : n = top G + 1) (j : Nat) (hj : j < G.rules.length) (b0 : Bool) (hTr : TriedB G n (canB G) (fstB G) B0 j 0 B b0) (s : Nat) (R : List Int) (hr : G.rules[j] = ((s : Int), R)) (hs : t < s ∧ s < n) (a : Option Addr) (c : Nat) (hR : Sep.Reads a (ivs R) W0) (hL : LOk R c) :
    Calls Tryz.prog 23 #[.pointer (some ⟨p, 0, none⟩), .agg #[.int .i64 (s : Int), .slice a R.length c]] w (AddB I P D p q1 q2 t n G B0 j b0 O w) := by
  have bx := boxed w (.cells #[.int .i64 (s : Int), .slice a R.length c] 40)
  have F0 := Lib.hid (show FSt I P D p q1 q2 t n G B0 j 0 b0 false O B w (.int .i64 (s : Int)) (.slice a R.length c) (w.alloc (.cells #[.int .i64 (s : Int), .slice a R.length c] 40)) from
    ⟨by rw [Bool.or_false]; exact hTr, hT, h.went bx, Sep.Fr.of_below bx, Bk.new w _ _ _ rfl⟩)
  have h4 := h.n4
  have DL := Lib.hid (ds_lt h)
  have RR := Lib.hid (fun w1 (b : Below W0.heap.size W0 w1) => Sep.Reads.below hR b (Nat.le_refl _))
  have LO := Lib.hid hL
  have BB := Lib.hid (fun w' (f : Sep.Fr (Ds I D) w w') => below_fr hb0 hD f)
  have HDD := Lib.hid hD
  have hl := hL.len
  have hcap := hL.cap
  have NB := Lib.hid (show ∀ x : Int, nonB G x = decide ((t : Int) < x ∧ x < (n : Int)) from fun x => by
    have e : top G = G.terms.length + G.nons.length := rfl
    rw [Bool.eq_iff_iff, nonB_iff, decide_eq_true_iff, ht, hn]
    omega)
  have RJ := Lib.hid hr
  have HJ := Lib.hid hj
  obtain ⟨hs1, hs2⟩ := hs
  have FO := Lib.hid (fun T w1 (b : SAt I P D p q1 q2 t n T w1) x => follow_at w1 b x)
  have GS := Lib.hid (show gptr P t n (s : Int) = .pointer (some ⟨P (.g s), 0, none⟩) by unfold gptr; rw [if_pos (by omega)]; rfl)
  clear h hT hb0 hD ht hn hTr hr hR hL bx
  have h0 := F0.out.box.two.2.1
  go_enter Tryz.func23, Tryz.ntmps23
  go_wp2
  clear h0
  go_loopw [5, 14] (fun m i wr => FoRel I P D p q1 q2 t n G B0 j b0 O w (.int .i64 (s : Int)) (.slice a R.length c) R.length m i wr) (fun _ i _ => R.length - (intOf i).toNat)
  case atStart => exact ⟨0, false, B, Nat.zero_le _, rfl, rfl, F0.out⟩
  case round =>
    clear F0
    obtain ⟨k, b, H, hk, rfl, rfl, hF⟩ := hrel
    have F := Lib.hid hF
    clear hF
    by_cases hlt : k < R.length
    · obtain ⟨bb, o, rfl, hc⟩ := int_at (RR.out _ (BB.out _ F.out.fr)) hlt
      obtain ⟨y0, y1, yf⟩ := F.out.box.two
      have FC := Lib.hid (FO.out _ _ F.out.s R[k])
      by_cases hx : (t : Int) < R[k] ∧ R[k] < (n : Int)
      · obtain ⟨xn, hxn⟩ : ∃ m : Nat, R[k] = (m : Int) := ⟨R[k].toNat, by omega⟩
        have hxr : t < xn ∧ xn < n := by omega
        have EU := Lib.hid (show gptr P t n R[k] = .pointer (some ⟨P (.g xn), 0, none⟩) by unfold gptr; rw [if_pos hx, hxn]; rfl)
        have FN := Lib.hid (fol_step' F.out.tr F.out.ok HJ.out RJ.out hlt hxn (by rw [NB.out, decide_eq_true_iff]; omega) (by omega) (by omega))
        have OK2 := Lib.hid (tok_addB F.out.ok ((s : Int), R) k (x := (xn : Int)) (by omega) (by omega))
        have HA := Lib.hid (fun A cc (hA : BehA A cc bb o k R.length c) w' (hb : Below W0.heap.size W0 w') => reads_beh (RR.out w' hb) hA)
        have HDC := Lib.hid (fun A cc (hA : BehA A cc bb o k R.length c) w' (hS : SAt I P D p q1 q2 t n (tv (canB G) (fstB G) H O) w') (hb : Below W0.heap.size W0 w') => head_at w' hS F.out.ok.c (R.drop (k + 1)) A cc (HA.out A cc hA w' hb) (lok_beh LO.out hA))
        have JOC := Lib.hid (fun A cc (hA : BehA A cc bb o k R.length c) w' (hS : SAt I P D p q1 q2 t n (tv (canB G) (fstB G) H O) w') (hb : Below W0.heap.size W0 w') => join_at W0 w' hS F.out.ok (.g xn) (hS.ig xn hxr.1 hxr.2) rfl hb (HDD.out _ (hS.ig xn hxr.1 hxr.2)) ((R.drop (k + 1)).take (headN (canB G) (R.drop (k + 1)))) A cc (reads_take (HA.out A cc hA W0 (.refl _ _)) _) ((lok_beh LO.out hA).take _))
        rw [List.length_drop] at HDC
        rw [take_len, show tv (canB G) (fstB G) H O (.g xn) = rw' (H (xn : Int)) from rfl] at JOC
        unfold JoinEnd at JOC
        rw [jn_row] at JOC
        have GL := Lib.hid (fun b1 (h : Gn (rw' (H (xn : Int))) (fstB G) ((R.drop (k + 1)).take (headN (canB G) (R.drop (k + 1)))) b1) => gn_line h)
        have RG := Lib.hid (F.out.ok.b1 (s : Int))
        unfold HeadEnd at HDC
        have BW := Lib.hid (show ∀ w', Sep.Fr (Ds I D) w w' → Below W0.heap.size W0 w' from BB.out)
        rw [EU.out] at FC
        have A1 := Lib.hid (show BehA (some ⟨bb, o + (k + 1), none⟩) (c - (k + 1)) bb o k R.length c from .inl ⟨rfl, rfl⟩)
        have A2 := Lib.hid (fun (h : c = k + 1) => show BehA (some ⟨bb, o, none⟩) 0 bb o k R.length c from .inr ⟨rfl, rfl, by omega⟩)
        clear EU hx
        generalize R[k] = x at *
        subst hxn
        cases hall : allC (canB G) (R.drop (k + 1)) with
        | false =>
          have AR := Lib.hid (addB_row0 (F := fstB G) (B := H) (s := (s : Int)) (x := (xn : Int)) hall)
          have G0 := Lib.hid (show (false = true ↔ allC (canB G) (R.drop (k + 1)) = true ∧ ∃ i : Nat, H (s : Int) (i : Int) = true ∧ (H (xn : Int) (i : Int) || lineB (canB G) (fstB G) (R.drop (k + 1)) (i : Int)) = false) from ⟨(fun h => by cases h), (fun h => by rw [hall] at h; cases h.1)⟩)
          rw [hall] at HDC
          clear hall
          go_wp2_with (first
            | (go_at_call 34; refine FC.out.mono ?_; rintro e w1 ⟨rfl, hb⟩; have F1 := Lib.hid (F.out.went hb); clear y0 y1 yf; obtain ⟨y0, y1, yf⟩ := F1.out.box.two; clear hb)
            | (go_at_call 37; (first | (with_reducible refine (HDC.out _ _ A1.out _ F1.out.s (BW.out _ F1.out.fr)).mono ?_) | (with_reducible refine (HDC.out _ _ (A2.out (by omega)) _ F1.out.s (BW.out _ F1.out.fr)).mono ?_)); rintro e w2 ⟨rfl, hb⟩; have F2 := Lib.hid (F1.out.went hb); clear hb y0 y1 yf))
          all_goals (first | (with_reducible refine (JOC.out _ _ A1.out _ F2.out.s (BW.out _ F2.out.fr)).mono ?_) | (with_reducible refine (JOC.out _ _ (A2.out (by omega)) _ F2.out.s (BW.out _ F2.out.fr)).mono ?_))
          all_goals try (have hcc : c = k + 1 := (by assumption); subst hcc)
          all_goals
            rintro e w3 ⟨b1, rfl, hg, hs3, hk3⟩
            have J3 := Lib.hid ((F2.out.j xn).put DL.out hxr hs3 hk3)
            have G1 := Lib.hid (GL.out b1 hg)
            have FE := Lib.hid (fun m hm => J3.out.fst AR.out OK2.out (FN.out b1 false m G1.out G0.out hm))
            clear hg hs3 hk3
            cases b1
            · go_wp2
              go_roundw
              case rel => exact ⟨k + 1, b, _, by omega, by go_num, rfl, FE.out b (by simp)⟩
              case measure => simp [intOf]; omega
            · go_wp2
              go_roundw
              case rel => exact ⟨k + 1, true, _, by omega, by go_num, rfl, FE.out true (by simp)⟩
              case measure => simp [intOf]; omega
        | true =>
          have AR := Lib.hid (addB_row1 (F := fstB G) (B := H) (s := (s : Int)) (x := (xn : Int)) hall)
          have G0 := Lib.hid (fun g (h : g = true ↔ ∃ i : Nat, rw' (H (s : Int)) i = true ∧ (H (xn : Int) (i : Int) || lineB (canB G) (fstB G) (R.drop (k + 1)) (i : Int)) = false) => show (g = true ↔ allC (canB G) (R.drop (k + 1)) = true ∧ ∃ i : Nat, H (s : Int) (i : Int) = true ∧ (H (xn : Int) (i : Int) || lineB (canB G) (fstB G) (R.drop (k + 1)) (i : Int)) = false) from h.trans ⟨(fun h => ⟨hall, h⟩), (fun h => h.2)⟩)
          have SE := Lib.hid (show s = xn → ∀ i : Nat, H (s : Int) (i : Int) = true → (H (xn : Int) (i : Int) || lineB (canB G) (fstB G) (R.drop (k + 1)) (i : Int)) = true from fun e i hi => by subst e; rw [hi]; rfl)
          rw [hall] at HDC
          clear hall
          go_wp2_with (first
            | (go_at_call 34; refine FC.out.mono ?_; rintro e w1 ⟨rfl, hb⟩; have F1 := Lib.hid (F.out.went hb); clear y0 y1 yf; obtain ⟨y0, y1, yf⟩ := F1.out.box.two; clear hb)
            | (go_at_call 37; (first | (with_reducible refine (HDC.out _ _ A1.out _ F1.out.s (BW.out _ F1.out.fr)).mono ?_) | (with_reducible refine (HDC.out _ _ (A2.out (by omega)) _ F1.out.s (BW.out _ F1.out.fr)).mono ?_)); rintro e w2 ⟨rfl, hb⟩; have F2 := Lib.hid (F1.out.went hb); clear hb y0 y1 yf))
          all_goals (first | (with_reducible refine (JOC.out _ _ A1.out _ F2.out.s (BW.out _ F2.out.fr)).mono ?_) | (with_reducible refine (JOC.out _ _ (A2.out (by omega)) _ F2.out.s (BW.out _ F2.out.fr)).mono ?_))
          all_goals try (have hcc : c = k + 1 := (by assumption); subst hcc)
          all_goals
            rintro e w3 ⟨b1, rfl, hg, hs3, hk3⟩
            have J3 := Lib.hid ((F2.out.j xn).put DL.out hxr hs3 hk3)
            have G1 := Lib.hid (GL.out b1 hg)
            have FC2 := Lib.hid (FO.out _ _ J3.out.s (s : Int))
            rw [GS.out] at FC2
            have FN1 := Lib.hid (fun g h2 m hm => FN.out b1 g m G1.out h2 hm)
            have OC2 := Lib.hid (fun w' (hJ : SAt I P D p q1 q2 t n (upd (tv (canB G) (fstB G) H O) (.g xn) (fun i : Nat => H (xn : Int) (i : Int) || lineB (canB G) (fstB G) (R.drop (k + 1)) (i : Int))) w') => or_row w' hJ hxr ⟨hs1, hs2⟩ RG.out SE.out)
            obtain ⟨y0, y1, yf⟩ := J3.out.box.two
            clear hg hs3 hk3 FN G1
            cases b1
            · go_wp2_with (go_at_call 34; refine FC2.out.mono ?_; rintro e w4 ⟨rfl, hb⟩; have J4 := Lib.hid (J3.out.went hb); clear hb y0 y1 yf)
              refine (OC2.out _ J4.out.s).mono ?_
              rintro e w5 ⟨g, rfl, hg, hs5, hk5⟩
              have FE := Lib.hid (fun m hm => (J4.out.put DL.out hxr hs5 hk5).fst AR.out OK2.out (FN1.out g (G0.out g hg) m hm))
              clear hg hs5 hk5
              cases g
              · go_wp2
                go_roundw
                case rel => exact ⟨k + 1, b, _, by omega, by go_num, rfl, FE.out b (by simp)⟩
                case measure => simp [intOf]; omega
              · go_wp2
                go_roundw
                case rel => exact ⟨k + 1, true, _, by omega, by go_num, rfl, FE.out true (by simp)⟩
                case measure => simp [intOf]; omega
            · go_wp2_with (go_at_call 34; refine FC2.out.mono ?_; rintro e w4 ⟨rfl, hb⟩; have J4 := Lib.hid (J3.out.went hb); clear hb y0 y1 yf)
              refine (OC2.out _ J4.out.s).mono ?_
              rintro e w5 ⟨g, rfl, hg, hs5, hk5⟩
              have FE := Lib.hid (fun m hm => (J4.out.put DL.out hxr hs5 hk5).fst AR.out OK2.out (FN1.out g (G0.out g hg) m hm))
              clear hg hs5 hk5
              cases g
              · go_wp2
                go_roundw
                case rel => exact ⟨k + 1, true, _, by omega, by go_num, rfl, FE.out true (by simp)⟩
                case measure => simp [intOf]; omega
              · go_wp2
                go_roundw
                case rel => exact ⟨k + 1, true, _, by omega, by go_num, rfl, FE.out true (by simp)⟩
                case measure => simp [intOf]; omega
      · have EU := Lib.hid (show gptr P t n R[k] = .pointer none by unfold gptr; rw [if_neg hx])
        have SK := Lib.hid (skip' F.out.tr HJ.out RJ.out fun _ => by rw [NB.out, decide_eq_false_iff_not]; exact hx)
        have HA := Lib.hid (fun A cc (hA : BehA A cc bb o k R.length c) w' (hb : Below W0.heap.size W0 w') => reads_beh (RR.out w' hb) hA)
        have HDC := Lib.hid (fun A cc (hA : BehA A cc bb o k R.length c) w' (hS : SAt I P D p q1 q2 t n (tv (canB G) (fstB G) H O) w') (hb : Below W0.heap.size W0 w') => head_at w' hS F.out.ok.c (R.drop (k + 1)) A cc (HA.out A cc hA w' hb) (lok_beh LO.out hA))
        have JOC := Lib.hid (fun A cc (hA : BehA A cc bb o k R.length c) w' (hS : SAt I P D p q1 q2 t n (tv (canB G) (fstB G) H O) w') (hb : Below W0.heap.size W0 w') => join_none w' hS ((R.drop (k + 1)).take (headN (canB G) (R.drop (k + 1)))) A cc (reads_take (HA.out A cc hA w' hb) _) ((lok_beh LO.out hA).take _))
        rw [List.length_drop] at HDC
        rw [take_len] at JOC
        unfold HeadEnd at HDC
        have BW := Lib.hid (show ∀ w', Sep.Fr (Ds I D) w w' → Below W0.heap.size W0 w' from BB.out)
        rw [EU.out] at FC
        have A1 := Lib.hid (show BehA (some ⟨bb, o + (k + 1), none⟩) (c - (k + 1)) bb o k R.length c from .inl ⟨rfl, rfl⟩)
        have A2 := Lib.hid (fun (h : c = k + 1) => show BehA (some ⟨bb, o, none⟩) 0 bb o k R.length c from .inr ⟨rfl, rfl, by omega⟩)
        have ON := Lib.hid (fun u w' => Bt.or_nil (u := u) w')
        clear EU hx
        generalize R[k] = x at *
        generalize allC (canB G) (R.drop (k + 1)) = al at *
        cases al with
        | false =>
          go_wp2_with (first
            | (go_at_call 34; refine FC.out.mono ?_; rintro e w1 ⟨rfl, hb⟩; have F1 := Lib.hid (F.out.went hb); clear y0 y1 yf; obtain ⟨y0, y1, yf⟩ := F1.out.box.two; clear hb)
            | (go_at_call 37; (first | (with_reducible refine (HDC.out _ _ A1.out _ F1.out.s (BW.out _ F1.out.fr)).mono ?_) | (with_reducible refine (HDC.out _ _ (A2.out (by omega)) _ F1.out.s (BW.out _ F1.out.fr)).mono ?_)); rintro e w2 ⟨rfl, hb⟩; have F2 := Lib.hid (F1.out.went hb); clear hb y0 y1 yf)
            | (go_at_call 38; (first | (with_reducible refine (JOC.out _ _ A1.out _ F2.out.s (BW.out _ F2.out.fr)).mono ?_) | (with_reducible refine (JOC.out _ _ (A2.out (by omega)) _ F2.out.s (BW.out _ F2.out.fr)).mono ?_)); rintro e w3 ⟨rfl, hb⟩; have F3 := Lib.hid (F2.out.went hb); clear hb))
          all_goals try (have hcc : c = k + 1 := (by assumption); subst hcc)
          all_goals
            have F4 := Lib.hid (FSt.mk SK.out F3.out.ok F3.out.s F3.out.fr F3.out.box)
            go_roundw
            case rel => exact ⟨k + 1, b, H, by omega, by go_num, rfl, F4.out⟩
            case measure => simp [intOf]; omega
        | true =>
          go_wp2_with (first
            | (go_at_call 34; (with_reducible refine FC.out.mono ?_); rintro e w1 ⟨rfl, hb⟩; have F1 := Lib.hid (F.out.went hb); clear y0 y1 yf; obtain ⟨y0, y1, yf⟩ := F1.out.box.two; clear hb)
            | (go_at_call 37; (first | (with_reducible refine (HDC.out _ _ A1.out _ F1.out.s (BW.out _ F1.out.fr)).mono ?_) | (with_reducible refine (HDC.out _ _ (A2.out (by omega)) _ F1.out.s (BW.out _ F1.out.fr)).mono ?_)); rintro e w2 ⟨rfl, hb⟩; have F2 := Lib.hid (F1.out.went hb); clear hb y0 y1 yf)
            | (go_at_call 38; (first | (with_reducible refine (JOC.out _ _ A1.out _ F2.out.s (BW.out _ F2.out.fr)).mono ?_) | (with_reducible refine (JOC.out _ _ (A2.out (by omega)) _ F2.out.s (BW.out _ F2.out.fr)).mono ?_)); rintro e w3 ⟨rfl, hb⟩; have F3 := Lib.hid (F2.out.went hb); obtain ⟨y0, y1, yf⟩ := F3.out.box.two; have FC2 := Lib.hid (FO.out _ _ F3.out.s (s : Int)); clear hb FC)
            | (go_at_call 34; (with_reducible refine FC2.out.mono ?_); rintro e w4 ⟨rfl, hb⟩; have F5 := Lib.hid (F3.out.went hb); clear hb y0 y1 yf)
            | (go_at_call 49; refine (ON.out _ _).mono ?_; rintro e w5 ⟨rfl, rfl⟩))
          all_goals try (have hcc : c = k + 1 := (by assumption); subst hcc)
          all_goals
            have F4 := Lib.hid (FSt.mk SK.out F5.out.ok F5.out.s F5.out.fr F5.out.box)
            go_roundw
            case rel => exact ⟨k + 1, b, H, by omega, by go_num, rfl, F4.out⟩
            case measure => simp [intOf]; omega
    · have E := Lib.hid (next' F.out.tr HJ.out RJ.out hlt)
      go_wp2
      go_ret
      exact ⟨b, H, rfl, E.out, F.out.ok, F.out.s, F.out.fr⟩

end Go.Proofs.YtoipinnfmjaaaaaGreatDoor.Fi
