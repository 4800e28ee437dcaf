/- A part of the proof. -/
import Derived.Maps.OwnSet
import Derived.Maps.AppendAt
import Derived.Below
import Derived.Lib.Hide
import Derived.Deep.Draws
import Derived.Test.YtbcgmiocolpjoaaGreatPk01
set_option linter.unusedVariables false
namespace Go.Proofs.YtbcgmiocolpjoaaGreat
theorem zPB {p : Prop} (h : p) : Go.RowKit.Hid p := h
namespace Sep
open Go.RowKit
structure Fr (S : Nat -> Prop) (w w' : World) : Prop where
 os : w'.os = w.os
 tape : w'.tape = w.tape
 output : w'.output = w.output
 size : w.heap.size <= w'.heap.size
 block : ∀ k, k < w.heap.size -> ¬ S k -> w'.heap[k]? = w.heap[k]?
def Ext (T S : Nat -> Prop) (w : World) : Prop := ∀ k, T k -> S k \/ w.heap.size <= k
def Inn (S : Nat -> Prop) (w : World) : Prop := ∀ k, S k -> k < w.heap.size
theorem Ext.refl (S : Nat -> Prop) (w : World) : Ext S S w := fun _ h => .inl h
theorem Ext.trans {S T U : Nat -> Prop} {w w' : World} (h : Ext T S w) (k : Ext U T w') (hs : w.heap.size <= w'.heap.size) : Ext U S w := fun i hi => by
 rcases k i hi with h1 | h1
 ·exact h i h1
 ·exact .inr (Nat.le_trans hs h1)
theorem Ext.at {S T : Nat -> Prop} {w w' : World} (h : Ext T S w') (hs : w.heap.size <= w'.heap.size) : Ext T S w := fun i hi => (h i hi).imp id fun h1 => Nat.le_trans hs h1
theorem Inn.le {S : Nat -> Prop} {w w' : World} (h : Inn S w) (hs : w.heap.size <= w'.heap.size) : Inn S w' := fun k hk => Nat.lt_of_lt_of_le (h k hk) hs
theorem Fr.refl (S : Nat -> Prop) (w : World) : Fr S w w := ⟨rfl, rfl, rfl, Nat.le_refl _, fun _ _ _ => rfl⟩
theorem Fr.trans {S T : Nat -> Prop} {a b c : World} (h : Fr S a b) (k : Fr T b c) (hx : Ext T S a) : Fr S a c :=
 ⟨k.os.trans h.os, k.tape.trans h.tape, k.output.trans h.output, Nat.le_trans h.size k.size, fun i hi hS => (k.block i (Nat.lt_of_lt_of_le hi h.size) (fun hT => by
  rcases hx i hT with h1 | h1
  ·exact hS h1
  ·omega)).trans (h.block i hi hS)⟩
theorem Fr.mono {S T : Nat -> Prop} {a b : World} (h : Fr S a b) (hx : ∀ k, S k -> T k) : Fr T a b :=
 ⟨h.os, h.tape, h.output, h.size, fun i hi hT => h.block i hi fun hS => hT (hx i hS)⟩
theorem Fr.drew {S : Nat -> Prop} {a w : World} (h : Fr S a w) : Fr S a w.drew := ⟨h.os, h.tape, h.output, h.size, h.block⟩
theorem Fr.of_below {S : Nat -> Prop} {a b : World} (h : Below a.heap.size a b) : Fr S a b := ⟨h.os, h.tape, h.output, h.size, fun i hi _ => h.block i hi⟩
theorem Fr.below {S : Nat -> Prop} {m : Nat} {a b : World} (h : Fr S a b) (hS : ∀ k, S k -> m <= k) (hs : m <= a.heap.size) : Below m a b :=
 ⟨h.os, h.tape, h.output, h.size, fun i hi => h.block i (by omega) fun h1 => by have := hS i h1; omega⟩
theorem Fr.alloc {S : Nat -> Prop} {a w : World} (h : Fr S a w) (o : Obj) : Fr S a (w.alloc o) :=
 h.trans (T := S) ⟨rfl, rfl, rfl, by simp, fun i hi _ => Below.heap_alloc _ _ _ hi⟩ (.refl _ _)
theorem Fr.setCell {S : Nat -> Prop} {a w : World} (h : Fr S a w) (p : Addr) (hp : S p.block) (u : Value) : Fr S a (w.setCell p u) :=
 h.trans (T := S) ⟨rfl, rfl, rfl, by simp [World.setCell], fun i hi hS => Below.heap_setCell _ _ _ _ (fun e => hS (e ▸ hp))⟩ (.refl _ _)
theorem Fr.grown {S : Nat -> Prop} {a w w' : World} {row : Option Nat} (h : Fr S a w) (hg : w.grownBy w' row) (hr : ∀ k, row = some k -> S k \/ a.heap.size <= k) : Fr S a w' :=
 h.trans (T := fun k => row = some k) ⟨hg.os, hg.tape, hg.output, hg.size, fun i hi hS => hg.block i hi (fun e => hS e.symm)⟩ hr
theorem Fr.cell {S : Nat -> Prop} {a w : World} (h : Fr S a w) {p : Addr} {v : Value} (hc : a.cell? p = some v) (hp : ¬ S p.block) : w.cell? p = some v :=
 (World.cell?_of_block (h.block _ (World.block_lt_of_cell? a p hc) hp)).trans hc
theorem zAH {w w' : World} {base size n : Nat} {e : TypeId} {v : Value} {xs : List Value} (h : w.ownsRow base e size v n xs) (hb : ∀ g, v.ownBlock = some g -> w'.heap[g]? = w.heap[g]?) : w'.ownsRow base e size v n xs := by
 obtain ⟨h1, h2⟩ := h
 refine ⟨h1, h2.imp id ?_⟩
 rintro ⟨g, cap, cur, rfl, hg, hc, r⟩
 exact ⟨g, cap, cur, rfl, hg, (hb g rfl).trans hc, r⟩
theorem ownsMap_at {H : Type} {P : Program} {k : TypeId} {R : Value -> Option (DataW H × List MemPlace)} {w w' : World} {b n : Nat} {D : DataW H} (h : w.ownsMap P k R b n D) (hb : w'.heap[b]? = w.heap[b]?) : w'.ownsMap P k R b n D := by
 obtain ⟨es, c, h1, r⟩ := h
 exact ⟨es, c, hb.trans h1, r⟩
theorem zAe {w : World} {base n : Nat} {e : TypeId} {v : Value} {xs : List Value} (h : w.ownsRow base e 1 v n xs) : ∃ a cap, v = .slice a n cap := by
 rcases h.2 with ⟨rfl, rfl⟩ | ⟨g, cap, cur, rfl, _⟩
 ·exact ⟨_, _, rfl⟩
 ·exact ⟨_, _, rfl⟩
def Reads (a : Option Addr) (xs : List Value) (w : World) : Prop := ∀ i (h : i < xs.length), ∃ b o, a = some ⟨b, o, none⟩ /\ w.cell? ⟨b, o + i, none⟩ = some xs[i]
theorem Reads.nil (a : Option Addr) (w : World) : Reads a [] w := fun i h => absurd h (by simp)
theorem Reads.of_row {w : World} {base n cap : Nat} {e : TypeId} {a : Option Addr} {xs : List Value} (h : w.ownsRow base e 1 (.slice a n cap) n xs) : Reads a xs w := by
 intro i hi
 have hl := h.1
 rcases h.2 with ⟨h1, h2⟩ | ⟨g, cap', cur, h1, _⟩
 ·subst h2
  rw [hl] at hi
  omega
 ·simp only [Value.slice.injEq] at h1
  obtain ⟨rfl, _, _⟩ := h1
  refine ⟨g, 0, rfl, ?_⟩
  have := h.cells (g := g) rfl i xs[i] (by simp [hi])
  rwa [WideShapes.add_plain] at this
theorem Reads.keep {a : Option Addr} {xs : List Value} {w w' : World} (h : Reads a xs w) (hb : ∀ b o, a = some ⟨b, o, none⟩ -> w'.heap[b]? = w.heap[b]?) : Reads a xs w' := fun i hi => by
 obtain ⟨b, o, e, hc⟩ := h i hi
 exact ⟨b, o, e, (World.cell?_of_block (a := ⟨b, o + i, none⟩) (hb b o e)).trans hc⟩
theorem Reads.below {a : Option Addr} {xs : List Value} {m : Nat} {w w' : World} (h : Reads a xs w) (hb : Below m w w') (hm : w.heap.size <= m) : Reads a xs w' := fun i hi => by
 obtain ⟨b, o, e, hc⟩ := h i hi
 have := World.block_lt_of_cell? w ⟨b, o + i, none⟩ hc
 exact ⟨b, o, e, hb.cell (p := ⟨b, o + i, none⟩) (by simp at this ⊢; omega) |>.trans hc⟩
end Sep
namespace It
open Go.RowKit Go.Maps
def pl : List ByteArray -> ByteArray -> Option Nat
 | [], _ => none
 | x :: r, s => if x = s then some 0 else (pl r s).map (· + 1)
theorem zJz {L : List ByteArray} {s : ByteArray} : pl L s = none ↔ s ∉ L := by
 induction L with
 | nil => simp [pl]
 | cons x r ih =>
  unfold pl
  by_cases h : x = s
  ·simp [h]
  ·simp [h, ih, Ne.symm h]
theorem zGO {L : List ByteArray} {s : ByteArray} {i : Nat} (h : pl L s = some i) : ∃ hi : i < L.length, L[i] = s /\ ∀ j (hj : j < i), L[j]'(by omega) ≠ s := by
 induction L generalizing i with
 | nil => simp [pl] at h
 | cons x r ih =>
  unfold pl at h
  by_cases hx : x = s
  ·simp [hx] at h
   subst h
   exact ⟨by simp, by simpa using hx, fun j hj => absurd hj (by omega)⟩
  ·simp only [hx, if_false, Option.map_eq_some_iff] at h
   obtain ⟨k, hk, rfl⟩ := h
   obtain ⟨h1, h2, h3⟩ := ih hk
   refine ⟨by simp; omega, by simpa using h2, fun j hj => ?_⟩
   cases j with
   | zero => simpa using hx
   | succ j => simpa using h3 j (by omega)
theorem zO6 {L : List ByteArray} {s : ByteArray} {i : Nat} (hi : i < L.length) (h : L[i] = s) (hb : ∀ j (hj : j < i), L[j]'(by omega) ≠ s) : pl L s = some i := by
 cases hp : pl L s with
 | none => exact absurd (h ▸ List.getElem_mem hi) (zJz.1 hp)
 | some k =>
  obtain ⟨h1, h2, h3⟩ := zGO hp
  rcases Nat.lt_trichotomy k i with hl | rfl | hl
  ·exact absurd h2 (hb k hl)
  ·rfl
  ·exact absurd h (h3 i hl)
theorem zJ0 (L : List ByteArray) (s t : ByteArray) : pl (L ++ [s]) t = match pl L t with | some i => some i | none => if s = t then some L.length else none := by
 induction L with
 | nil => simp [pl]
 | cons x r ih =>
  simp only [List.cons_append, pl]
  by_cases hx : x = t
  ·simp [hx]
  ·simp only [hx, if_false, ih]
   cases pl r t with
   | some i => simp
   | none => by_cases hs : s = t <;> simp [hs]
def isIn (L : List ByteArray) (s : ByteArray) : Bool := (pl L s).isSome
def num (L : List ByteArray) (s : ByteArray) : Nat := (pl L s).getD 0
def place (L : List ByteArray) (s : ByteArray) : Int := if isIn L s then (num L s : Int) else -1
theorem zEx {L : List ByteArray} {s : ByteArray} (h : isIn L s = true) : place L s = (num L s : Int) := by simp [place, h]
theorem zDO {L : List ByteArray} {s : ByteArray} (h : isIn L s = false) : place L s = -1 := by simp [place, h]
theorem zG8 {L : List ByteArray} {s : ByteArray} (h : isIn L s = true) : ∃ hi : num L s < L.length, L[num L s] = s := by
 unfold isIn at h
 obtain ⟨i, hi⟩ := Option.isSome_iff_exists.1 h
 obtain ⟨h1, h2, _⟩ := zGO hi
 have : num L s = i := by simp [num, hi]
 exact ⟨by omega, by simpa [this] using h2⟩
theorem zA6 {L : List ByteArray} {s : ByteArray} : isIn L s = true ↔ s ∈ L := by
 unfold isIn
 cases h : pl L s with
 | none => simpa using zJz.1 h
 | some i =>
  obtain ⟨h1, h2, _⟩ := zGO h
  simpa using h2 ▸ List.getElem_mem h1
theorem zFV (L : List ByteArray) (s : ByteArray) : isIn (L ++ [s]) s = true := zA6.2 (by simp)
theorem zEv {L : List ByteArray} {s : ByteArray} (h : isIn L s = false) : num (L ++ [s]) s = L.length := by
 have hp : pl L s = none := by
  unfold isIn at h
  cases hp : pl L s with
  | none => rfl
  | some i => simp [hp] at h
 simp [num, zJ0, hp]
theorem zOa {L : List ByteArray} {s : ByteArray} : num L s <= L.length := by
 cases h : isIn L s with
 | true => obtain ⟨h1, _⟩ := zG8 h; omega
 | false =>
  unfold isIn at h
  cases hp : pl L s with
  | none => simp [num, hp]
  | some i => simp [hp] at h
theorem zEb {s t : ByteArray} (h : s.data.toList = t.data.toList) : s = t := by
 cases s
 cases t
 simpa using h
def zIY (L : List ByteArray) (D : DataW Unit) : Prop := ∀ s : ByteArray, Maps.has D (.string s.data.toList) = isIn L s /\ D.atKey (.string s.data.toList) (.lit (.int .i64 0)) = .lit (.int .i64 (num L s))
theorem zFc : zIY [] (.map []) := fun _ => ⟨rfl, rfl⟩
theorem zFd {L : List ByteArray} {D : DataW Unit} {s : ByteArray} (hD : IsMap D) (hk : WideAt.IsKeyLit (.string s.data.toList)) (h : zIY L D) (hn : isIn L s = false) : zIY (L ++ [s]) (D.put (.string s.data.toList) (.lit (.int .i64 L.length))) := fun t => by
 by_cases e : s = t
 ·subst e
  rw [has_put_same hD hk, atKey_put_same hD hk, zFV, zEv hn]
  exact ⟨rfl, rfl⟩
 ·have hne : (Lit.string t.data.toList) ≠ .string s.data.toList := fun h => e (zEb (by injection h with h; exact h.symm))
  rw [has_put_other hne, atKey_put_other hne, (h t).1, (h t).2]
  have hp : pl (L ++ [s]) t = pl L t := by
   rw [zJ0]
   cases pl L t <;> simp [e]
  exact ⟨by unfold isIn; rw [hp], by unfold num; rw [hp]⟩
end It
namespace Gr
open Go.RowKit Go.Maps
structure Gram where
 terms : List ByteArray
 nons : List ByteArray
 rules : List (Int × List Int)
 start : Int
def names (G : Gram) : List ByteArray := G.terms ++ G.nons
def top (G : Gram) : Nat := G.terms.length + G.nons.length
def zBS (G : Gram) (s : Int) : Bool := decide (1 <= s /\ s <= (G.terms.length : Int))
def nonB (G : Gram) (s : Int) : Bool := decide ((G.terms.length : Int) < s /\ s <= (top G : Int))
def zDL (G : Gram) (s : Int) : ByteArray := if s = 0 then ⟨#[36]⟩ else if 1 <= s /\ s <= (top G : Int) then (names G).getD (s.toNat - 1) ⟨#[]⟩ else ⟨#[]⟩
theorem zAY {G : Gram} {s : Int} : nonB G s = true ↔ (G.terms.length : Int) < s /\ s <= (G.terms.length : Int) + (G.nons.length : Int) := by
 unfold nonB top
 rw [decide_eq_true_iff]
 omega
theorem zLi {G : Gram} {s : Int} : nonB G s = false ↔ s <= (G.terms.length : Int) \/ (G.terms.length : Int) + (G.nons.length : Int) < s := by
 rw [← Bool.not_eq_true, zAY]
 omega
theorem zAR {G : Gram} {s : Int} : zBS G s = true ↔ 1 <= s /\ s <= (G.terms.length : Int) := by
 unfold zBS
 rw [decide_eq_true_iff]
theorem zAb (G : Gram) : (names G).length = top G := by simp [names, top]
theorem zJp (G : Gram) : zDL G 0 = ⟨#[36]⟩ := by simp [zDL]
theorem zLf {G : Gram} {s : Int} (h : s < 0 \/ (top G : Int) < s) : zDL G s = ⟨#[]⟩ := by
 unfold zDL
 rw [if_neg (by omega), if_neg (by omega)]
theorem zGJ {G : Gram} {s : Nat} (h : s < top G) : zDL G ((s : Int) + 1) = (names G)[s]'(by rw [zAb]; exact h) := by
 unfold zDL
 rw [if_neg (by omega), if_pos (by omega)]
 have e : ((s : Int) + 1).toNat - 1 = s := by omega
 rw [e]
 simp [List.getD_eq_getElem?_getD, List.getElem?_eq_getElem (show s < (names G).length by rw [zAb]; exact h)]
theorem zJn {G : Gram} {s : Nat} (h : s < G.terms.length) : zDL G ((s : Int) + 1) = G.terms[s] := by
 rw [zGJ (by unfold top; omega)]
 simp [names, List.getElem_append_left h]
theorem zLe {G : Gram} {s : Nat} (h : s < G.nons.length) : zDL G (((G.terms.length + s : Nat) : Int) + 1) = G.nons[s] := by
 rw [zGJ (by unfold top; omega)]
 simp [names, List.getElem_append_right]
def leftOf (R : List (Int × List Int)) (i : Nat) : Int := (R.getD i (0, [])).1
theorem zBT {R : List (Int × List Int)} {i : Nat} (h : i < R.length) : leftOf R i = R[i].1 := by
 simp [leftOf, List.getD_eq_getElem?_getD, List.getElem?_eq_getElem h]
def ofTo (R : List (Int × List Int)) (s : Int) (k : Nat) : List Nat := (List.range k).filter fun i => leftOf R i == s
def ofN (G : Gram) (s : Int) : List Nat := ofTo G.rules s G.rules.length
theorem zLl {R : List (Int × List Int)} {s : Int} {k : Nat} (h : leftOf R k = s) : ofTo R s (k + 1) = ofTo R s k ++ [k] := by
 simp [ofTo, List.range_succ, List.filter_append, h]
theorem zJv {R : List (Int × List Int)} {s : Int} {k : Nat} (h : ¬ leftOf R k = s) : ofTo R s (k + 1) = ofTo R s k := by
 simp [ofTo, List.range_succ, List.filter_append, h]
theorem zJu (R : List (Int × List Int)) (s : Int) (k : Nat) : (ofTo R s k).length <= k := by
 unfold ofTo
 exact Nat.le_trans (List.length_filter_le _ _) (by simp)
theorem zLc {R : List (Int × List Int)} {s : Int} {k i : Nat} : i ∈ ofTo R s k ↔ i < k /\ leftOf R i = s := by
 simp [ofTo]
theorem zDJ {G : Gram} {s : Int} {i : Nat} : i ∈ ofN G s ↔ i < G.rules.length /\ leftOf G.rules i = s := zLc
def zAW (G : Gram) (i : Int) : Bool := decide (0 <= i /\ i <= (G.rules.length : Int))
def zAN (G : Gram) (i : Int) : Int × List Int := if i < 0 \/ (G.rules.length : Int) < i then (0, []) else if i = G.rules.length then (0, [G.start]) else G.rules.getD i.toNat (0, [])
theorem zC4 {G : Gram} {i : Int} (h : i < 0 \/ (G.rules.length : Int) < i) : zAW G i = false /\ zAN G i = (0, []) := by
 refine ⟨?_, by unfold zAN; rw [if_pos h]⟩
 unfold zAW
 rw [decide_eq_false_iff_not]
 omega
theorem zBP (G : Gram) : zAW G G.rules.length = true /\ zAN G G.rules.length = (0, [G.start]) := by
 refine ⟨by simp [zAW], ?_⟩
 unfold zAN
 rw [if_neg (by omega), if_pos rfl]
theorem zBp {G : Gram} {i : Nat} (h : i < G.rules.length) : zAW G i = true /\ zAN G i = G.rules[i] := by
 refine ⟨by simp [zAW]; omega, ?_⟩
 unfold zAN
 rw [if_neg (by omega), if_neg (by omega)]
 simp [List.getD_eq_getElem?_getD, List.getElem?_eq_getElem h]
def zA5 (r q : Int × List Int) : Bool := r.1 == q.1 && decide (r.2 = q.2)
theorem zCV {r q : Int × List Int} : zA5 r q = true ↔ r = q := by
 obtain ⟨a, b⟩ := r
 obtain ⟨c, d⟩ := q
 simp [zA5]
theorem zGW {r q : Int × List Int} : zA5 r q = false ↔ r ≠ q := by rw [ne_eq, ← zCV, Bool.not_eq_true]
def insB (x : Int) : Bool := decide (33 <= x /\ x <= 126 /\ x ≠ 39)
def InTo (s : ByteArray) (k : Nat) : Prop := ∀ j (h : j < s.size), 1 <= j -> j < k -> insB ((s[j]'h).toNat : Int) = true
def Closes (s : ByteArray) (k : Nat) : Prop := 2 <= k /\ k < 24 /\ InTo s k /\ ∃ h : k < s.size, (s[k]'h).toNat = 39
theorem zGp (s : ByteArray) : InTo s 1 := fun j _ h1 h2 => absurd h1 (by omega)
theorem zFU {s : ByteArray} {k : Nat} (h : InTo s k) (hk : k < s.size) (hi : insB ((s[k]'hk).toNat : Int) = true) : InTo s (k + 1) := fun j hj h1 h2 => by
 by_cases e : j = k
 ·subst e
  exact hi
 ·exact h j hj h1 (by omega)
theorem zDx {s : ByteArray} {k : Nat} (h : Closes s k) {i : Nat} (hi : i < s.size) (h1 : 1 <= i) (hk : i < k) : insB ((s[i]'hi).toNat : Int) = true := h.2.2.1 i hi h1 hk
noncomputable def quoS (s : ByteArray) : Bool := @decide ((∃ h : 0 < s.size, (s[0]'h).toNat = 39) /\ ∃ k, Closes s k /\ k + 1 = s.size) (Classical.propDecidable _)
theorem zHl {s : ByteArray} {k j : Nat} (h : Closes s k) (g : Closes s j) : k = j := by
 obtain ⟨h1, h2, h3, h4, h5⟩ := h
 obtain ⟨g1, g2, g3, g4, g5⟩ := g
 rcases Nat.lt_trichotomy k j with hlt | rfl | hlt
 ·have := g3 k h4 (by omega) hlt
  rw [h5] at this
  simp [insB] at this
 ·rfl
 ·have := h3 j g4 (by omega) hlt
  rw [g5] at this
  simp [insB] at this
theorem zJ5 {s : ByteArray} (h : ¬ ∃ h : 0 < s.size, (s[0]'h).toNat = 39) : quoS s = false := by
 unfold quoS
 rw [decide_eq_false_iff_not]
 exact fun k => h k.1
theorem zHE {s : ByteArray} (h : ¬ ∃ k, Closes s k) : quoS s = false := by
 unfold quoS
 rw [decide_eq_false_iff_not]
 exact fun ⟨_, k, hk, _⟩ => h ⟨k, hk⟩
theorem zHF {s : ByteArray} {k : Nat} (h0 : ∃ h : 0 < s.size, (s[0]'h).toNat = 39) (h : Closes s k) : quoS s = decide (k + 1 = s.size) := by
 unfold quoS
 rw [Bool.eq_iff_iff, @decide_eq_true_iff _ (Classical.propDecidable _), decide_eq_true_iff]
 constructor
 ·rintro ⟨_, j, hj, e⟩
  rw [zHl h hj]
  exact e
 ·exact fun e => ⟨h0, k, h, e⟩
def plnS (s : ByteArray) : Bool := decide (s.size <= 24) && Ch.namB s.data.toList
def zA7 (G : Gram) : Bool := decide (120 < G.terms.length) || decide (120 < G.nons.length) || decide (300 < G.rules.length) || G.rules.any fun r => decide (8 < r.2.length)
noncomputable def zBk (G : Gram) : Bool := (G.terms.all fun s => plnS s || quoS s) && G.nons.all plnS
def zCl (G : Gram) : Bool := decide (names G).Nodup
def zAt (G : Gram) : Bool := nonB G G.start && G.rules.all fun r => nonB G r.1 && r.2.all fun x => decide (1 <= x /\ x <= (top G : Int))
def zAr (G : Gram) : Bool := decide G.rules.Nodup
def zBq (G : Gram) : Bool := (List.range G.nons.length).all fun i => !(ofN G ((G.terms.length : Int) + 1 + i)).isEmpty
noncomputable def checkN (G : Gram) : Int := if zA7 G then 7 else if !zBk G then 10 else if !zCl G then 8 else if !zAt G then 1 else if !zAr G then 8 else if !zBq G then 9 else 0
theorem zAk {G : Gram} (h : checkN G = 0) : zA7 G = false /\ zBk G = true /\ zCl G = true /\ zAt G = true /\ zAr G = true /\ zBq G = true := by
 unfold checkN at h
 cases h1 : zA7 G <;> cases h2 : zBk G <;> cases h3 : zCl G <;> cases h4 : zAt G <;> cases h5 : zAr G <;> cases h6 : zBq G <;> simp [h1, h2, h3, h4, h5, h6] at h ⊢
theorem zCL {G : Gram} (h : zAt G = true) {i : Nat} (hi : i < G.rules.length) : nonB G (leftOf G.rules i) = true := by
 simp only [zAt, Bool.and_eq_true, List.all_eq_true] at h
 rw [zBT hi]
 exact (h.2 _ (List.getElem_mem hi)).1
end Gr
namespace Le
def numF (B : Nat) (a : Nat) (w : List Int) : Nat := w.foldl (fun a d => a * B + d.toNat) a
def numW (B : Nat) (w : List Int) : Nat := numF B 0 w
def Dig (B : Nat) (w : List Int) : Prop := ∀ x ∈ w, 1 <= x /\ x.toNat < B
theorem zEc (B : Nat) : Dig B [] := fun x h => by cases h
theorem zHo {B : Nat} {v w : List Int} (h : Dig B v) (k : Dig B w) : Dig B (v ++ w) := fun x hx => by
 rcases List.mem_append.1 hx with h1 | h1
 ·exact h x h1
 ·exact k x h1
theorem zG7 (B : Nat) (w : List Int) : ∀ a, numF B a w = a * B ^ w.length + numW B w := by
 induction w with
 | nil => intro a; simp [numF, numW]
 | cons x r ih =>
  intro a
  have e1 : numF B a (x :: r) = numF B (a * B + x.toNat) r := rfl
  have e2 : numW B (x :: r) = numF B (0 * B + x.toNat) r := rfl
  rw [e1, e2, ih, ih (0 * B + x.toNat), List.length_cons, Nat.pow_succ, Nat.add_mul, Nat.zero_mul, Nat.zero_add]
  rw [Nat.mul_assoc a B, Nat.mul_comm B (B ^ r.length)]
  omega
theorem zBV (B : Nat) (x : Int) (w : List Int) : numW B (x :: w) = x.toNat * B ^ w.length + numW B w := by
 have e : numW B (x :: w) = numF B (0 * B + x.toNat) w := rfl
 rw [e, zG7, Nat.zero_mul, Nat.zero_add]
theorem zDM (B : Nat) (v w : List Int) : numW B (v ++ w) = numW B v * B ^ w.length + numW B w := by
 unfold numW numF
 rw [List.foldl_append]
 exact zG7 B w _
theorem zCk {B : Nat} (hB : 0 < B) {w : List Int} (h : Dig B w) : numW B w < B ^ w.length := by
 induction w with
 | nil => simp [numW, numF]
 | cons x r ih =>
  have hx := h x (List.mem_cons_self ..)
  have hr := ih fun y hy => h y (List.mem_cons_of_mem _ hy)
  rw [zBV, List.length_cons, Nat.pow_succ, Nat.mul_comm (B ^ r.length) B]
  have h1 : (x.toNat + 1) * B ^ r.length <= B * B ^ r.length := Nat.mul_le_mul_right _ hx.2
  rw [Nat.add_mul, Nat.one_mul] at h1
  omega
theorem zNS {B : Nat} {x : Int} {w : List Int} (h : Dig B (x :: w)) : B ^ w.length <= numW B (x :: w) := by
 have hx := (h x (List.mem_cons_self ..)).1
 rw [zBV]
 have h1 : 1 * B ^ w.length <= x.toNat * B ^ w.length := Nat.mul_le_mul_right _ (by omega)
 omega
theorem zEA {B : Nat} (hB : 0 < B) {v w : List Int} (hv : Dig B v) (hw : Dig B w) (h : v.length < w.length) : numW B v < numW B w := by
 cases w with
 | nil => simp at h
 | cons x r =>
  have h1 := zCk hB hv
  have h2 := zNS hw
  have h3 : B ^ v.length <= B ^ r.length := Nat.pow_le_pow_right hB (by simp at h; omega)
  omega
theorem zAv {B : Nat} (hB : 0 < B) {v w : List Int} (hv : Dig B v) (hw : Dig B w) (h : numW B v <= numW B w) : v.length <= w.length := by
 refine Nat.not_lt.1 fun hlt => ?_
 have := zEA hB hw hv hlt
 omega
theorem zLk {B : Nat} (hB : 0 < B) : ∀ {v w : List Int}, Dig B v -> Dig B w -> numW B v = numW B w -> v = w := by
 intro v
 induction v with
 | nil =>
  intro w _ hw h
  have := zAv hB hw (zEc B) (by omega)
  exact (List.eq_nil_of_length_eq_zero (by simpa using this)).symm
 | cons x r ih =>
  intro w hv hw h
  have h1 := zAv hB hv hw (by omega)
  have h2 := zAv hB hw hv (by omega)
  cases w with
  | nil => simp at h1
  | cons y s =>
   have hl : r.length = s.length := by simp at h1 h2; omega
   have hr : Dig B r := fun z hz => hv z (List.mem_cons_of_mem _ hz)
   have hs : Dig B s := fun z hz => hw z (List.mem_cons_of_mem _ hz)
   have b1 := zCk hB hr
   have b2 := zCk hB hs
   rw [zBV, zBV, ← hl] at h
   rw [← hl] at b2
   have hp : 0 < B ^ r.length := Nat.pow_pos hB
   have hxy : x.toNat = y.toNat := by
    have d1 : (x.toNat * B ^ r.length + numW B r) / B ^ r.length = x.toNat := by
     rw [Nat.mul_comm, Nat.mul_add_div hp, Nat.div_eq_of_lt b1, Nat.add_zero]
    have d2 : (y.toNat * B ^ r.length + numW B s) / B ^ r.length = y.toNat := by
     rw [Nat.mul_comm, Nat.mul_add_div hp, Nat.div_eq_of_lt b2, Nat.add_zero]
    rw [← d1, h, d2]
   rw [hxy] at h
   have hx := (hv x (List.mem_cons_self ..)).1
   have hy := (hw y (List.mem_cons_self ..)).1
   have e : x = y := by omega
   subst e
   rw [ih hr hs (by omega)]
theorem zJr {B : Nat} (hB : 0 < B) {a a' b b' : List Int} (hb : Dig B b) (hb' : Dig B b') (h1 : numW B a <= numW B a') (h2 : numW B b <= numW B b') : numW B (a ++ b) <= numW B (a' ++ b') := by
 rw [zDM, zDM]
 have hl := zAv hB hb hb' h2
 have h3 : numW B a * B ^ b.length <= numW B a' * B ^ b'.length := Nat.mul_le_mul h1 (Nat.pow_le_pow_right hB hl)
 omega
def lexB : List Int -> List Int -> Bool
 | x :: r, y :: s => if x = y then lexB r s else decide (x < y)
 | _, _ => false
def zAy (a b : List Int) : Bool := if a.length = b.length then lexB a b else decide (a.length < b.length)
theorem zNM {B : Nat} (hB : 0 < B) : ∀ {v w : List Int}, Dig B v -> Dig B w -> v.length = w.length -> (lexB v w = true ↔ numW B v < numW B w) := by
 intro v
 induction v with
 | nil =>
  intro w _ _ hl
  have : w = [] := List.eq_nil_of_length_eq_zero (by simpa using hl.symm)
  subst this
  simp [lexB]
 | cons x r ih =>
  intro w hv hw hl
  cases w with
  | nil => simp at hl
  | cons y s =>
   have hls : r.length = s.length := by simpa using hl
   have hr : Dig B r := fun z hz => hv z (List.mem_cons_of_mem _ hz)
   have hs : Dig B s := fun z hz => hw z (List.mem_cons_of_mem _ hz)
   have b1 := zCk hB hr
   have b2 := zCk hB hs
   have hx := hv x (List.mem_cons_self ..)
   have hy := hw y (List.mem_cons_self ..)
   rw [zBV, zBV, ← hls]
   rw [← hls] at b2
   unfold lexB
   by_cases e : x = y
   ·subst e
    rw [if_pos rfl, ih hr hs hls]
    omega
   ·rw [if_neg e, decide_eq_true_iff]
    constructor
    ·intro h
     have h1 : (x.toNat + 1) * B ^ r.length <= y.toNat * B ^ r.length := Nat.mul_le_mul_right _ (by omega)
     rw [Nat.add_mul, Nat.one_mul] at h1
     omega
    ·intro h
     refine Int.not_le.1 fun hle => ?_
     have h1 : (y.toNat + 1) * B ^ r.length <= x.toNat * B ^ r.length := Nat.mul_le_mul_right _ (by omega)
     rw [Nat.add_mul, Nat.one_mul] at h1
     omega
theorem zGw {B : Nat} (hB : 0 < B) {v w : List Int} (hv : Dig B v) (hw : Dig B w) : zAy v w = true ↔ numW B v < numW B w := by
 unfold zAy
 by_cases hl : v.length = w.length
 ·rw [if_pos hl]
  exact zNM hB hv hw hl
 ·rw [if_neg hl, decide_eq_true_iff]
  constructor
  ·exact zEA hB hv hw
  ·intro h
   have := zAv hB hv hw (Nat.le_of_lt h)
   omega
