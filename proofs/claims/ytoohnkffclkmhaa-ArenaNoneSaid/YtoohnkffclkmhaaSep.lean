/-
  Frames: what a call leaves of memory, but for a set of blocks of its own. No program in it.
-/
import Derived.Maps.OwnSet
import Derived.Maps.AppendAt
import Derived.Below
import Derived.Lib.Hide
import Derived.Deep.Draws
namespace Go.Proofs.Ytoohnkffclkmhaa.Sep
open Go.RowKit

/-- All blocks but those of S, that were there, are as they were. -/
structure Fr (S : Nat → Prop) (w w' : World) : Prop where
  os : w'.os = w.os
  tape : w'.tape = w.tape
  output : w'.output = w.output
  size : w.heap.size ≤ w'.heap.size
  block : ∀ k, k < w.heap.size → ¬ S k → w'.heap[k]? = w.heap[k]?

/-- The blocks of T are of S, or newer than w. -/
def Ext (T S : Nat → Prop) (w : World) : Prop := ∀ k, T k → S k ∨ w.heap.size ≤ k

/-- All blocks of S are there. -/
def Inn (S : Nat → Prop) (w : World) : Prop := ∀ k, S k → k < w.heap.size

/-- No block is of both. -/
def Off (S T : Nat → Prop) : Prop := ∀ k, S k → ¬ T k

theorem Ext.refl (S : Nat → Prop) (w : World) : Ext S S w := fun _ h => .inl h
theorem Ext.trans {S T U : Nat → Prop} {w w' : World} (h : Ext T S w) (k : Ext U T w') (hs : w.heap.size ≤ w'.heap.size) : Ext U S w := fun i hi => by
  rcases k i hi with h1 | h1
  · exact h i h1
  · exact .inr (Nat.le_trans hs h1)
theorem Ext.at {S T : Nat → Prop} {w w' : World} (h : Ext T S w') (hs : w.heap.size ≤ w'.heap.size) : Ext T S w := fun i hi => (h i hi).imp id fun h1 => Nat.le_trans hs h1
theorem Ext.from {S T : Nat → Prop} {w : World} {m : Nat} (h : Ext T S w) (hS : ∀ k, S k → m ≤ k) (hm : m ≤ w.heap.size) : ∀ k, T k → m ≤ k := fun k hk => by
  rcases h k hk with h1 | h1
  · exact hS k h1
  · omega

theorem Off.symm {S T : Nat → Prop} (h : Off S T) : Off T S := fun k hT hS => h k hS hT
/-- What grew out of S stays off what was there. -/
theorem Off.ext {S T U : Nat → Prop} {w : World} (h : Off S T) (hx : Ext U S w) (hi : Inn T w) : Off U T := fun k hU hT => by
  rcases hx k hU with h1 | h1
  · exact h k h1 hT
  · have := hi k hT
    omega
/-- What lies at m or behind it is off what lies ahead of it. -/
theorem Off.of {S T : Nat → Prop} {m : Nat} (hS : ∀ k, S k → m ≤ k) (hT : ∀ k, T k → k < m) : Off S T := fun k h1 h2 => by
  have := hS k h1
  have := hT k h2
  omega

theorem Inn.le {S : Nat → Prop} {w w' : World} (h : Inn S w) (hs : w.heap.size ≤ w'.heap.size) : Inn S w' := fun k hk => Nat.lt_of_lt_of_le (h k hk) hs

theorem Fr.refl (S : Nat → Prop) (w : World) : Fr S w w := ⟨rfl, rfl, rfl, Nat.le_refl _, fun _ _ _ => rfl⟩
theorem Fr.trans {S T : Nat → Prop} {a b c : World} (h : Fr S a b) (k : Fr T b c) (hx : Ext T S a) : Fr S a c :=
  ⟨k.os.trans h.os, k.tape.trans h.tape, k.output.trans h.output, Nat.le_trans h.size k.size, fun i hi hS => (k.block i (Nat.lt_of_lt_of_le hi h.size) (fun hT => by
    rcases hx i hT with h1 | h1
    · exact hS h1
    · omega)).trans (h.block i hi hS)⟩
theorem Fr.mono {S T : Nat → Prop} {a b : World} (h : Fr S a b) (hx : ∀ k, S k → T k) : Fr T a b :=
  ⟨h.os, h.tape, h.output, h.size, fun i hi hT => h.block i hi fun hS => hT (hx i hS)⟩
theorem Fr.drew {S : Nat → Prop} {a w : World} (h : Fr S a w) : Fr S a w.drew := ⟨h.os, h.tape, h.output, h.size, h.block⟩
theorem Fr.drewN {S : Nat → Prop} {a w : World} (h : Fr S a w) (m : Nat) : Fr S a (w.drewN m) := ⟨h.os, h.tape, h.output, h.size, h.block⟩
theorem Fr.of_below {S : Nat → Prop} {a b : World} (h : Below a.heap.size a b) : Fr S a b := ⟨h.os, h.tape, h.output, h.size, fun i hi _ => h.block i hi⟩
theorem Fr.below {S : Nat → Prop} {m : Nat} {a b : World} (h : Fr S a b) (hS : ∀ k, S k → m ≤ k) (hs : m ≤ a.heap.size) : Below m a b :=
  ⟨h.os, h.tape, h.output, h.size, fun i hi => h.block i (by omega) fun h1 => by have := hS i h1; omega⟩
theorem Fr.alloc {S : Nat → Prop} {a w : World} (h : Fr S a w) (o : Obj) : Fr S a (w.alloc o) :=
  h.trans (T := S) ⟨rfl, rfl, rfl, by simp, fun i hi _ => Below.heap_alloc _ _ _ hi⟩ (.refl _ _)
theorem Fr.setCell {S : Nat → Prop} {a w : World} (h : Fr S a w) (p : Addr) (hp : S p.block) (u : Value) : Fr S a (w.setCell p u) :=
  h.trans (T := S) ⟨rfl, rfl, rfl, by simp [World.setCell], fun i hi hS => Below.heap_setCell _ _ _ _ (fun e => hS (e ▸ hp))⟩ (.refl _ _)
/-- A store into a block that is newer than the beginning. -/
theorem Fr.setNew {S : Nat → Prop} {a w : World} (h : Fr S a w) (p : Addr) (hp : a.heap.size ≤ p.block) (u : Value) : Fr S a (w.setCell p u) :=
  h.trans (T := fun k => k = p.block) ⟨rfl, rfl, rfl, by simp [World.setCell], fun i hi hS => Below.heap_setCell _ _ _ _ hS⟩ (fun k hk => .inr (by omega))
theorem Fr.grown {S : Nat → Prop} {a w w' : World} {row : Option Nat} (h : Fr S a w) (hg : w.grownBy w' row) (hr : ∀ k, row = some k → S k ∨ a.heap.size ≤ k) : Fr S a w' :=
  h.trans (T := fun k => row = some k) ⟨hg.os, hg.tape, hg.output, hg.size, fun i hi hS => hg.block i hi (fun e => hS e.symm)⟩ hr
theorem Fr.cell {S : Nat → Prop} {a w : World} (h : Fr S a w) {p : Addr} {v : Value} (hc : a.cell? p = some v) (hp : ¬ S p.block) : w.cell? p = some v :=
  (World.cell?_of_block (h.block _ (World.block_lt_of_cell? a p hc) hp)).trans hc

/-- A row of one's own, in whatever world that keeps its block. -/
theorem ownsRow_at {w w' : World} {base size n : Nat} {e : TypeId} {v : Value} {xs : List Value} (h : w.ownsRow base e size v n xs) (hb : ∀ g, v.ownBlock = some g → w'.heap[g]? = w.heap[g]?) : w'.ownsRow base e size v n xs := by
  obtain ⟨h1, h2⟩ := h
  refine ⟨h1, h2.imp id ?_⟩
  rintro ⟨g, cap, cur, rfl, hg, hc, r⟩
  exact ⟨g, cap, cur, rfl, hg, (hb g rfl).trans hc, r⟩

/-- A map, in whatever world that keeps its block. -/
theorem ownsMap_at {H : Type} {P : Program} {k : TypeId} {R : Value → Option (DataW H × List MemPlace)} {w w' : World} {b n : Nat} {D : DataW H} (h : w.ownsMap P k R b n D) (hb : w'.heap[b]? = w.heap[b]?) : w'.ownsMap P k R b n D := by
  obtain ⟨es, c, h1, r⟩ := h
  exact ⟨es, c, hb.trans h1, r⟩

/-- The shape of a slice that owns a row. -/
theorem ownsRow_shape {w : World} {base n : Nat} {e : TypeId} {v : Value} {xs : List Value} (h : w.ownsRow base e 1 v n xs) : ∃ a cap, v = .slice a n cap := by
  rcases h.2 with ⟨rfl, rfl⟩ | ⟨g, cap, cur, rfl, _⟩
  · exact ⟨_, _, rfl⟩
  · exact ⟨_, _, rfl⟩

/-- A slice reads as a list of values of one cell each. -/
def Reads (a : Option Addr) (xs : List Value) (w : World) : Prop := ∀ i (h : i < xs.length), ∃ b o, a = some ⟨b, o, none⟩ ∧ w.cell? ⟨b, o + i, none⟩ = some xs[i]

theorem Reads.nil (a : Option Addr) (w : World) : Reads a [] w := fun i h => absurd h (by simp)
theorem Reads.of_row {w : World} {base n cap : Nat} {e : TypeId} {a : Option Addr} {xs : List Value} (h : w.ownsRow base e 1 (.slice a n cap) n xs) : Reads a xs w := by
  intro i hi
  have hl := h.1
  rcases h.2 with ⟨h1, h2⟩ | ⟨g, cap', cur, h1, _⟩
  · subst h2
    rw [hl] at hi
    omega
  · simp only [Value.slice.injEq] at h1
    obtain ⟨rfl, _, _⟩ := h1
    refine ⟨g, 0, rfl, ?_⟩
    have := h.cells (g := g) rfl i xs[i] (by simp [hi])
    rwa [WideShapes.add_plain] at this
theorem Reads.keep {a : Option Addr} {xs : List Value} {w w' : World} (h : Reads a xs w) (hb : ∀ b o, a = some ⟨b, o, none⟩ → w'.heap[b]? = w.heap[b]?) : Reads a xs w' := fun i hi => by
  obtain ⟨b, o, e, hc⟩ := h i hi
  exact ⟨b, o, e, (World.cell?_of_block (a := ⟨b, o + i, none⟩) (hb b o e)).trans hc⟩
theorem Reads.below {a : Option Addr} {xs : List Value} {m : Nat} {w w' : World} (h : Reads a xs w) (hb : Below m w w') (hm : w.heap.size ≤ m) : Reads a xs w' := fun i hi => by
  obtain ⟨b, o, e, hc⟩ := h i hi
  have := World.block_lt_of_cell? w ⟨b, o + i, none⟩ hc
  exact ⟨b, o, e, hb.cell (p := ⟨b, o + i, none⟩) (by simp at this ⊢; omega) |>.trans hc⟩

end Go.Proofs.Ytoohnkffclkmhaa.Sep
