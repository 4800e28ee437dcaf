/- A part of the proof. -/
import Derived.Maps.OwnSet
import Derived.Maps.AppendAt
import Derived.Below
import Derived.Lib.Hide
import Derived.Deep.Draws
set_option linter.unusedVariables false
namespace Go.Proofs.YtnfbjlainpenaaaGreat
theorem zNR {p : Prop} (h : p) : Go.RowKit.Hid p := h
namespace Sep
open Go.RowKit
structure Fr (S : Nat -> Prop) (w w' : World) : Prop where
 os : w'.os = w.os
 tape : w'.tape = w.tape
 output : w'.output = w.output
 size : w.heap.size <= w'.heap.size
 block : ∀ k, k < w.heap.size -> ¬ S k -> w'.heap[k]? = w.heap[k]?
def Ext (T S : Nat -> Prop) (w : World) : Prop := ∀ k, T k -> S k \/ w.heap.size <= k
def Inn (S : Nat -> Prop) (w : World) : Prop := ∀ k, S k -> k < w.heap.size
theorem Ext.refl (S : Nat -> Prop) (w : World) : Ext S S w := fun _ h => .inl h
theorem Ext.trans {S T U : Nat -> Prop} {w w' : World} (h : Ext T S w) (k : Ext U T w') (hs : w.heap.size <= w'.heap.size) : Ext U S w := fun i hi => by
 rcases k i hi with h1 | h1
 ·exact h i h1
 ·exact .inr (Nat.le_trans hs h1)
theorem Ext.at {S T : Nat -> Prop} {w w' : World} (h : Ext T S w') (hs : w.heap.size <= w'.heap.size) : Ext T S w := fun i hi => (h i hi).imp id fun h1 => Nat.le_trans hs h1
theorem Inn.le {S : Nat -> Prop} {w w' : World} (h : Inn S w) (hs : w.heap.size <= w'.heap.size) : Inn S w' := fun k hk => Nat.lt_of_lt_of_le (h k hk) hs
theorem Fr.refl (S : Nat -> Prop) (w : World) : Fr S w w := ⟨rfl, rfl, rfl, Nat.le_refl _, fun _ _ _ => rfl⟩
theorem Fr.trans {S T : Nat -> Prop} {a b c : World} (h : Fr S a b) (k : Fr T b c) (hx : Ext T S a) : Fr S a c :=
 ⟨k.os.trans h.os, k.tape.trans h.tape, k.output.trans h.output, Nat.le_trans h.size k.size, fun i hi hS => (k.block i (Nat.lt_of_lt_of_le hi h.size) (fun hT => by
  rcases hx i hT with h1 | h1
  ·exact hS h1
  ·omega)).trans (h.block i hi hS)⟩
theorem Fr.mono {S T : Nat -> Prop} {a b : World} (h : Fr S a b) (hx : ∀ k, S k -> T k) : Fr T a b :=
 ⟨h.os, h.tape, h.output, h.size, fun i hi hT => h.block i hi fun hS => hT (hx i hS)⟩
theorem Fr.drew {S : Nat -> Prop} {a w : World} (h : Fr S a w) : Fr S a w.drew := ⟨h.os, h.tape, h.output, h.size, h.block⟩
theorem Fr.of_below {S : Nat -> Prop} {a b : World} (h : Below a.heap.size a b) : Fr S a b := ⟨h.os, h.tape, h.output, h.size, fun i hi _ => h.block i hi⟩
theorem Fr.below {S : Nat -> Prop} {m : Nat} {a b : World} (h : Fr S a b) (hS : ∀ k, S k -> m <= k) (hs : m <= a.heap.size) : Below m a b :=
 ⟨h.os, h.tape, h.output, h.size, fun i hi => h.block i (by omega) fun h1 => by have := hS i h1; omega⟩
theorem Fr.alloc {S : Nat -> Prop} {a w : World} (h : Fr S a w) (o : Obj) : Fr S a (w.alloc o) :=
 h.trans (T := S) ⟨rfl, rfl, rfl, by simp, fun i hi _ => Below.heap_alloc _ _ _ hi⟩ (.refl _ _)
theorem Fr.setCell {S : Nat -> Prop} {a w : World} (h : Fr S a w) (p : Addr) (hp : S p.block) (u : Value) : Fr S a (w.setCell p u) :=
 h.trans (T := S) ⟨rfl, rfl, rfl, by simp [World.setCell], fun i hi hS => Below.heap_setCell _ _ _ _ (fun e => hS (e ▸ hp))⟩ (.refl _ _)
theorem Fr.grown {S : Nat -> Prop} {a w w' : World} {row : Option Nat} (h : Fr S a w) (hg : w.grownBy w' row) (hr : ∀ k, row = some k -> S k \/ a.heap.size <= k) : Fr S a w' :=
 h.trans (T := fun k => row = some k) ⟨hg.os, hg.tape, hg.output, hg.size, fun i hi hS => hg.block i hi (fun e => hS e.symm)⟩ hr
theorem Fr.cell {S : Nat -> Prop} {a w : World} (h : Fr S a w) {p : Addr} {v : Value} (hc : a.cell? p = some v) (hp : ¬ S p.block) : w.cell? p = some v :=
 (World.cell?_of_block (h.block _ (World.block_lt_of_cell? a p hc) hp)).trans hc
theorem zAG {w w' : World} {base size n : Nat} {e : TypeId} {v : Value} {xs : List Value} (h : w.ownsRow base e size v n xs) (hb : ∀ g, v.ownBlock = some g -> w'.heap[g]? = w.heap[g]?) : w'.ownsRow base e size v n xs := by
 obtain ⟨h1, h2⟩ := h
 refine ⟨h1, h2.imp id ?_⟩
 rintro ⟨g, cap, cur, rfl, hg, hc, r⟩
 exact ⟨g, cap, cur, rfl, hg, (hb g rfl).trans hc, r⟩
theorem ownsMap_at {H : Type} {P : Program} {k : TypeId} {R : Value -> Option (DataW H × List MemPlace)} {w w' : World} {b n : Nat} {D : DataW H} (h : w.ownsMap P k R b n D) (hb : w'.heap[b]? = w.heap[b]?) : w'.ownsMap P k R b n D := by
 obtain ⟨es, c, h1, r⟩ := h
 exact ⟨es, c, hb.trans h1, r⟩
theorem zAX {w : World} {base n : Nat} {e : TypeId} {v : Value} {xs : List Value} (h : w.ownsRow base e 1 v n xs) : ∃ a cap, v = .slice a n cap := by
 rcases h.2 with ⟨rfl, rfl⟩ | ⟨g, cap, cur, rfl, _⟩
 ·exact ⟨_, _, rfl⟩
 ·exact ⟨_, _, rfl⟩
def Reads (a : Option Addr) (xs : List Value) (w : World) : Prop := ∀ i (h : i < xs.length), ∃ b o, a = some ⟨b, o, none⟩ /\ w.cell? ⟨b, o + i, none⟩ = some xs[i]
theorem Reads.nil (a : Option Addr) (w : World) : Reads a [] w := fun i h => absurd h (by simp)
theorem Reads.of_row {w : World} {base n cap : Nat} {e : TypeId} {a : Option Addr} {xs : List Value} (h : w.ownsRow base e 1 (.slice a n cap) n xs) : Reads a xs w := by
 intro i hi
 have hl := h.1
 rcases h.2 with ⟨h1, h2⟩ | ⟨g, cap', cur, h1, _⟩
 ·subst h2
  rw [hl] at hi
  omega
 ·simp only [Value.slice.injEq] at h1
  obtain ⟨rfl, _, _⟩ := h1
  refine ⟨g, 0, rfl, ?_⟩
  have := h.cells (g := g) rfl i xs[i] (by simp [hi])
  rwa [WideShapes.add_plain] at this
theorem Reads.keep {a : Option Addr} {xs : List Value} {w w' : World} (h : Reads a xs w) (hb : ∀ b o, a = some ⟨b, o, none⟩ -> w'.heap[b]? = w.heap[b]?) : Reads a xs w' := fun i hi => by
 obtain ⟨b, o, e, hc⟩ := h i hi
 exact ⟨b, o, e, (World.cell?_of_block (a := ⟨b, o + i, none⟩) (hb b o e)).trans hc⟩
theorem Reads.below {a : Option Addr} {xs : List Value} {m : Nat} {w w' : World} (h : Reads a xs w) (hb : Below m w w') (hm : w.heap.size <= m) : Reads a xs w' := fun i hi => by
 obtain ⟨b, o, e, hc⟩ := h i hi
 have := World.block_lt_of_cell? w ⟨b, o + i, none⟩ hc
 exact ⟨b, o, e, hb.cell (p := ⟨b, o + i, none⟩) (by simp at this ⊢; omega) |>.trans hc⟩
end Sep
namespace It
open Go.RowKit Go.Maps
def pl : List ByteArray -> ByteArray -> Option Nat
 | [], _ => none
 | x :: r, s => if x = s then some 0 else (pl r s).map (· + 1)
theorem zIv {L : List ByteArray} {s : ByteArray} : pl L s = none ↔ s ∉ L := by
 induction L with
 | nil => simp [pl]
 | cons x r ih =>
  unfold pl
  by_cases h : x = s
  ·simp [h]
  ·simp [h, ih, Ne.symm h]
theorem zFW {L : List ByteArray} {s : ByteArray} {i : Nat} (h : pl L s = some i) : ∃ hi : i < L.length, L[i] = s /\ ∀ j (hj : j < i), L[j]'(by omega) ≠ s := by
 induction L generalizing i with
 | nil => simp [pl] at h
 | cons x r ih =>
  unfold pl at h
  by_cases hx : x = s
  ·simp [hx] at h
   subst h
   exact ⟨by simp, by simpa using hx, fun j hj => absurd hj (by omega)⟩
  ·simp only [hx, if_false, Option.map_eq_some_iff] at h
   obtain ⟨k, hk, rfl⟩ := h
   obtain ⟨h1, h2, h3⟩ := ih hk
   refine ⟨by simp; omega, by simpa using h2, fun j hj => ?_⟩
   cases j with
   | zero => simpa using hx
   | succ j => simpa using h3 j (by omega)
theorem zNN {L : List ByteArray} {s : ByteArray} {i : Nat} (hi : i < L.length) (h : L[i] = s) (hb : ∀ j (hj : j < i), L[j]'(by omega) ≠ s) : pl L s = some i := by
 cases hp : pl L s with
 | none => exact absurd (h ▸ List.getElem_mem hi) (zIv.1 hp)
 | some k =>
  obtain ⟨h1, h2, h3⟩ := zFW hp
  rcases Nat.lt_trichotomy k i with hl | rfl | hl
  ·exact absurd h2 (hb k hl)
  ·rfl
  ·exact absurd h (h3 i hl)
theorem zIw (L : List ByteArray) (s t : ByteArray) : pl (L ++ [s]) t = match pl L t with | some i => some i | none => if s = t then some L.length else none := by
 induction L with
 | nil => simp [pl]
 | cons x r ih =>
  simp only [List.cons_append, pl]
  by_cases hx : x = t
  ·simp [hx]
  ·simp only [hx, if_false, ih]
   cases pl r t with
   | some i => simp
   | none => by_cases hs : s = t <;> simp [hs]
def isIn (L : List ByteArray) (s : ByteArray) : Bool := (pl L s).isSome
def num (L : List ByteArray) (s : ByteArray) : Nat := (pl L s).getD 0
def place (L : List ByteArray) (s : ByteArray) : Int := if isIn L s then (num L s : Int) else -1
theorem zED {L : List ByteArray} {s : ByteArray} (h : isIn L s = true) : place L s = (num L s : Int) := by simp [place, h]
theorem zCt {L : List ByteArray} {s : ByteArray} (h : isIn L s = false) : place L s = -1 := by simp [place, h]
theorem zGG {L : List ByteArray} {s : ByteArray} (h : isIn L s = true) : ∃ hi : num L s < L.length, L[num L s] = s := by
 unfold isIn at h
 obtain ⟨i, hi⟩ := Option.isSome_iff_exists.1 h
 obtain ⟨h1, h2, _⟩ := zFW hi
 have : num L s = i := by simp [num, hi]
 exact ⟨by omega, by simpa [this] using h2⟩
theorem zAu {L : List ByteArray} {s : ByteArray} : isIn L s = true ↔ s ∈ L := by
 unfold isIn
 cases h : pl L s with
 | none => simpa using zIv.1 h
 | some i =>
  obtain ⟨h1, h2, _⟩ := zFW h
  simpa using h2 ▸ List.getElem_mem h1
theorem zEe (L : List ByteArray) (s : ByteArray) : isIn (L ++ [s]) s = true := zAu.2 (by simp)
theorem zEB {L : List ByteArray} {s : ByteArray} (h : isIn L s = false) : num (L ++ [s]) s = L.length := by
 have hp : pl L s = none := by
  unfold isIn at h
  cases hp : pl L s with
  | none => rfl
  | some i => simp [hp] at h
 simp [num, zIw, hp]
theorem zMw {L : List ByteArray} {s : ByteArray} : num L s <= L.length := by
 cases h : isIn L s with
 | true => obtain ⟨h1, _⟩ := zGG h; omega
 | false =>
  unfold isIn at h
  cases hp : pl L s with
  | none => simp [num, hp]
  | some i => simp [hp] at h
theorem zDu {s t : ByteArray} (h : s.data.toList = t.data.toList) : s = t := by
 cases s
 cases t
 simpa using h
def zHZ (L : List ByteArray) (D : DataW Unit) : Prop := ∀ s : ByteArray, Maps.has D (.string s.data.toList) = isIn L s /\ D.atKey (.string s.data.toList) (.lit (.int .i64 0)) = .lit (.int .i64 (num L s))
theorem zEk : zHZ [] (.map []) := fun _ => ⟨rfl, rfl⟩
theorem zEl {L : List ByteArray} {D : DataW Unit} {s : ByteArray} (hD : IsMap D) (hk : WideAt.IsKeyLit (.string s.data.toList)) (h : zHZ L D) (hn : isIn L s = false) : zHZ (L ++ [s]) (D.put (.string s.data.toList) (.lit (.int .i64 L.length))) := fun t => by
 by_cases e : s = t
 ·subst e
  rw [has_put_same hD hk, atKey_put_same hD hk, zEe, zEB hn]
  exact ⟨rfl, rfl⟩
 ·have hne : (Lit.string t.data.toList) ≠ .string s.data.toList := fun h => e (zDu (by injection h with h; exact h.symm))
  rw [has_put_other hne, atKey_put_other hne, (h t).1, (h t).2]
  have hp : pl (L ++ [s]) t = pl L t := by
   rw [zIw]
   cases pl L t <;> simp [e]
  exact ⟨by unfold isIn; rw [hp], by unfold num; rw [hp]⟩
