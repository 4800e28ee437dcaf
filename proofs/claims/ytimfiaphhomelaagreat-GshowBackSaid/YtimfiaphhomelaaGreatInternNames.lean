/-
  Package intern: a collection of names in memory; New, Len, Find, Text.
-/
import Derived.Test.YtimfiaphhomelaaGreatProg
import Derived.Test.YtimfiaphhomelaaGreatInternPlain
import Derived.WalkKit
import Derived.WalkLawsBesides
import Derived.WalkSpells
import Derived.Deep.Light
import Derived.IntWalk
namespace Go.Proofs.YtimfiaphhomelaaGreat.It
open Go.RowKit Go.Maps

theorem law : Keyed Tryz.prog 9 := string_keyed Tryz.underlying9
theorem zero_int (w : World) : (zeroValue 3).run Tryz.prog w = .ok (.int .i64 0) w := by kernel_rfl
theorem info_string : (Tryz.prog.info? 9).map (fun i => (i.zero, i.size, i.bytes)) = some (some (.string ByteArray.empty), 1, 16) := by kernel_rfl

theorem key_of {s : ByteArray} (h : s.size ≤ maxLen) : keyOf Tryz.prog 9 (.string s) = some (.string s.data.toList) := WideMaps.keyOf_string_mk Tryz.underlying9 h

/-- How the numbers in the map read. -/
noncomputable abbrev ReadI : Value → Option (DataW Unit × List MemPlace) := plainElem Tryz.prog 3

/-- The parts of a collection at p: its names' slice, its map. -/
structure Parts (p : Nat) (S : Nat → Prop) (n : Nat) (L : List ByteArray) (a : Option Addr) (c bm : Nat) (D : DataW Unit) (w : World) : Prop where
  most : w.cell? ⟨p, 0, none⟩ = some (.int .i64 n)
  texts : w.cell? ⟨p, 1, none⟩ = some (.slice a L.length c)
  numbers : w.cell? ⟨p, 2, none⟩ = some (.map (some bm))
  free : w.frozen? ⟨p, 1, none⟩ = false
  row : w.ownsRow (p + 1) 9 1 (.slice a L.length c) L.length (L.map .string)
  map : w.ownsMap Tryz.prog 9 ReadI bm L.length D
  is : MapIs L D
  lt : bm < p
  sp : S p
  sm : S bm
  sr : ∀ g, (Value.slice a L.length c).ownBlock = some g → S g
  inn : Sep.Inn S w
  good : Good L
  full : L.length ≤ n
  top : n ≤ 4096

/-- A collection at p of the names L, with room for n; all its blocks are of S. -/
def NmAt (p : Nat) (S : Nat → Prop) (n : Nat) (L : List ByteArray) (w : World) : Prop := ∃ a c bm D, Parts p S n L a c bm D w

theorem Parts.keep {p : Nat} {S : Nat → Prop} {n : Nat} {L : List ByteArray} {a : Option Addr} {c bm : Nat} {D : DataW Unit} {w w' : World} (h : Parts p S n L a c bm D w)
    (hs : w.heap.size ≤ w'.heap.size) (hb : ∀ k, k < w.heap.size → S k → w'.heap[k]? = w.heap[k]?) : Parts p S n L a c bm D w' :=
  have e (k : Nat) (hk : S k) := hb k (h.inn k hk) hk
  ⟨(World.cell?_of_block (a := ⟨p, 0, none⟩) (e p h.sp)).trans h.most, (World.cell?_of_block (a := ⟨p, 1, none⟩) (e p h.sp)).trans h.texts, (World.cell?_of_block (a := ⟨p, 2, none⟩) (e p h.sp)).trans h.numbers,
    (World.frozen?_of_block (a := ⟨p, 1, none⟩) (e p h.sp)).trans h.free, Sep.ownsRow_at h.row (fun g hg => e g (h.sr g hg)), Sep.ownsMap_at h.map (e bm h.sm), h.is, h.lt, h.sp, h.sm, h.sr, h.inn.le hs, h.good, h.full, h.top⟩

theorem NmAt.inn {p : Nat} {S : Nat → Prop} {n : Nat} {L : List ByteArray} {w : World} (h : NmAt p S n L w) : Sep.Inn S w := by
  obtain ⟨a, c, bm, D, h⟩ := h
  exact h.inn
theorem NmAt.good {p : Nat} {S : Nat → Prop} {n : Nat} {L : List ByteArray} {w : World} (h : NmAt p S n L w) : Good L ∧ L.length ≤ n ∧ n ≤ 4096 := by
  obtain ⟨a, c, bm, D, h⟩ := h
  exact ⟨h.good, h.full, h.top⟩
theorem NmAt.keep {p : Nat} {S : Nat → Prop} {n : Nat} {L : List ByteArray} {w w' : World} (h : NmAt p S n L w) (hs : w.heap.size ≤ w'.heap.size) (hb : ∀ k, k < w.heap.size → S k → w'.heap[k]? = w.heap[k]?) : NmAt p S n L w' := by
  obtain ⟨a, c, bm, D, h⟩ := h
  exact ⟨a, c, bm, D, h.keep hs hb⟩
/-- It stays, while others' blocks are written and new ones made. -/
theorem NmAt.off {p : Nat} {S T : Nat → Prop} {n : Nat} {L : List ByteArray} {w w' : World} (h : NmAt p S n L w) (k : Sep.Fr T w w') (ho : Sep.Off S T) : NmAt p S n L w' :=
  h.keep k.size fun i hi hS => k.block i hi (ho i hS)
theorem NmAt.went {p : Nat} {S : Nat → Prop} {n : Nat} {L : List ByteArray} {w w' : World} (h : NmAt p S n L w) (k : Below w.heap.size w w') : NmAt p S n L w' :=
  h.keep k.size fun i hi _ => k.block i hi

set_option maxHeartbeats 1000000 in
theorem len_nil (w : World) : Calls Tryz.prog 89 #[.pointer none] w fun e w' => e = .returned (.int .i64 0) ∧ w = w' := by
  go_enter Tryz.func89, Tryz.ntmps89
  go_wp2
  go_ret
  exact ⟨rfl, rfl⟩

set_option maxHeartbeats 1000000 in
theorem len_any {p : Nat} {S : Nat → Prop} {n : Nat} {L : List ByteArray} (w : World) (h : NmAt p S n L w) :
    Calls Tryz.prog 89 #[.pointer (some ⟨p, 0, none⟩)] w fun e w' => e = .returned (.int .i64 L.length) ∧ w = w' := by
  obtain ⟨a, c, bm, D, h⟩ := h
  have c1 := h.texts
  clear h
  go_enter Tryz.func89, Tryz.ntmps89
  go_wp2
  go_ret
  exact ⟨rfl, rfl⟩

/-- The look-up, for the walk. -/
theorem wpList_look {p : Nat} {S : Nat → Prop} {n : Nat} {L : List ByteArray} {b : Option Addr} {c bm : Nat} {D : DataW Unit} (w : World) {ops : Array Oper} {rest : List Oper} {o : Oper} {a : Act} {Q : Exit → Act → World → Prop}
    (hg : o.guard = none) (m x : Operand) (hop : o.op = Op.lookup 108 m x true) (h : Parts p S n L b c bm D w) (hm : a.eval m = .map (some bm)) (s : ByteArray) (hs : s.size ≤ maxLen) (hx : a.eval x = .string s)
    (hK : wpList Tryz.prog ops Q rest (a.put o.dst (.tuple #[.int .i64 (num L s), .bool (isIn L s)])) w) : wpList Tryz.prog ops Q (o :: rest) a w := by
  refine wpList_lookup_own_ok_int w hg m x 108 hop 9 3 .i64 law Tryz.underlying108 Tryz.underlying3 (zero_int w) bm L.length D hm h.map _ _ hx (key_of hs) fun d hat _ => ?_
  rw [(h.is s).2] at hat
  simp only [DataW.lit.injEq, Lit.int.injEq, true_and] at hat
  subst hat
  rw [(h.is s).1]
  exact hK

set_option maxHeartbeats 1000000 in
theorem find_nil (s : ByteArray) (w : World) : Calls Tryz.prog 109 #[.pointer none, .string s] w fun e w' => e = .returned (.int .i64 (-1)) ∧ w = w' := by
  go_enter Tryz.func109, Tryz.ntmps109
  go_wp2
  go_ret
  exact ⟨rfl, rfl⟩

set_option maxHeartbeats 1000000 in
theorem find_any {p : Nat} {S : Nat → Prop} {n : Nat} {L : List ByteArray} (w : World) (h : NmAt p S n L w) (s : ByteArray) (hs : s.size ≤ maxLen) :
    Calls Tryz.prog 109 #[.pointer (some ⟨p, 0, none⟩), .string s] w fun e w' => e = .returned (.int .i64 (place L s)) ∧ w = w' := by
  obtain ⟨a, c, bm, D, h⟩ := h
  have c2 := h.numbers
  have H := Lib.hid h
  have HS := Lib.hid hs
  clear h hs
  cases hi : isIn L s with
  | true =>
    rw [place_in hi]
    go_enter Tryz.func109, Tryz.ntmps109
    go_wp2_with (at_lookup; refine wpList_look _ rfl _ _ rfl H.out rfl s HS.out rfl ?_)
    go_ret
    exact ⟨rfl, rfl⟩
  | false =>
    rw [place_out hi]
    go_enter Tryz.func109, Tryz.ntmps109
    go_wp2_with (at_lookup; refine wpList_look _ rfl _ _ rfl H.out rfl s HS.out rfl ?_)
    go_ret
    exact ⟨rfl, rfl⟩

end Go.Proofs.YtimfiaphhomelaaGreat.It
