/- A part of the proof. -/
import Derived.Deep.AppendLies
import Derived.Test.YtnfbjlainpenaaaGreatDoorPk05
import Derived.Test.YtnfbjlainpenaaaGreatDoorPk03
set_option linter.unusedVariables false
set_option linter.unusedSimpArgs false
namespace Go.Proofs.YtnfbjlainpenaaaGreatDoor
open Go.RowKit Go.Maps
namespace Rw
theorem zCF {P : Program} (w : World) (t ty : TypeId) (base : Nat) (e : TypeId) (i : TypeInfo) (z : Value) (size bytes : Nat) (ht : P.underlying t = some (.slice e)) (hi : P.info? e = some i) (hz : i.zero = some z)
  (hsize : i.size = size) (hby : i.bytes = bytes) (hzs : z.cells.size = size) (hpos : 0 < size) (v : Value) (n : Nat) (xs : List Value) (hown : w.ownsRow base e size v n xs)
  (base2 : Nat) (v2 : Value) (m : Nat) (ys : List Value) (hown2 : w.ownsRow base2 e size v2 m ys) (h1 : ∀ u ∈ ys, u.oneCell' = true)
  (h63 : n + m <= maxLen) (hbytes : (n + m) * bytes <= 140737488355328) (hbase : base <= w.heap.size) :
  ∃ v' w', (Builtin.append_ #[t, t] ty #[v, v2]).run P w = .ok v' w' /\ w'.ownsRow base e size v' (n + m) (xs ++ ys) /\ w.grownBy w' v.ownBlock /\ (v'.ownBlock = v.ownBlock \/ v'.ownBlock = some w.heap.size) := by
 have hlen := hown2.1
 rcases hown2.2 with ⟨rfl, rfl⟩ | ⟨g2, cap2, cur2, rfl, hbg2, hg2, hnc2, hcm2, hcs2, htake2⟩
 ·have h0 : ys = [] := List.eq_nil_of_length_eq_zero (by simpa using hlen)
  subst h0
  refine ⟨v, w, ?_, by simpa using hown, ⟨rfl, rfl, rfl, Nat.le_refl _, fun _ _ _ => rfl⟩, .inl rfl⟩
  rcases hown.2 with ⟨rfl, rfl⟩ | ⟨g, cap, cur, rfl, hbg, hg, hnc, hcm, hcs, htake⟩
  ·simp [Builtin.append_, run_underlying ht, sizeOf, typeInfo, hi, Builtin.lenOf, Builtin.firstCells]
  ·simp [Builtin.append_, run_underlying ht, sizeOf, typeInfo, hi, Builtin.lenOf, Builtin.firstCells, loadCells, storeCells, hnc]
 ·obtain ⟨v', w', h2, h3, h4, _, h5⟩ := run_append_own_at (P := P) w base t ty e i z size bytes ht hi hz hsize hby hzs hpos v n xs hown ⟨g2, 0, none⟩ m cap2 ys hlen (hown2.cells rfl) h1 h63 hbytes hbase
  exact ⟨v', w', h2, h3, h4, h5⟩
theorem zCb {P : Program} (w : World) {o : Oper} {a : Act} {K : Act -> World -> Prop} {Q : Exit -> Act -> World -> Prop} (s x : Operand) (t : TypeId)
  (ho : o.op = .call { callee := .builtin .append, args := #[s, x], argTypes := #[t, t] })
  (base : Nat) (e : TypeId) (i : TypeInfo) (z : Value) (size bytes : Nat) (ht : P.underlying t = some (.slice e)) (hi : P.info? e = some i) (hz : i.zero = some z)
  (hsize : i.size = size) (hby : i.bytes = bytes) (hzs : z.cells.size = size) (hpos : 0 < size) (v : Value) (n : Nat) (xs : List Value) (hs : a.eval s = v) (hown : w.ownsRow base e size v n xs)
  (base2 : Nat) (v2 : Value) (m : Nat) (ys : List Value) (hx : a.eval x = v2) (hown2 : w.ownsRow base2 e size v2 m ys) (h1 : ∀ u ∈ ys, u.oneCell' = true)
  (h63 : n + m <= maxLen) (hbytes : (n + m) * bytes <= 140737488355328) (hbase : base <= w.heap.size)
  (h : ∀ v' w', w'.ownsRow base e size v' (n + m) (xs ++ ys) -> w.grownBy w' v.ownBlock -> (v'.ownBlock = v.ownBlock \/ v'.ownBlock = some w.heap.size) -> K (a.put o.dst v') w') : o.wp P a w K Q := by
 obtain ⟨v', w', hr, h2, h3, h4⟩ := zCF (P := P) w t o.type base e i z size bytes ht hi hz hsize hby hzs hpos v n xs hown base2 v2 m ys hown2 h1 h63 hbytes hbase
 unfold Oper.wp execOp
 simp only [ho, resolve, invoke, builtin, Sem.run_bind, Sem.run_pure, Result.andThen_ok, List.map_toArray, List.map_cons, List.map_nil, hs, hx, hr]
 exact h v' w' h2 h3 h4
theorem zAL {P : Program} (w : World) {ops : Array Oper} {rest : List Oper} {o : Oper} {a : Act} {Q : Exit -> Act -> World -> Prop} (hgd : o.guard = none) (s x : Operand) (t : TypeId)
  (ho : o.op = .call { callee := .builtin .append, args := #[s, x], argTypes := #[t, t] })
  (base : Nat) (e : TypeId) (i : TypeInfo) (z : Value) (size bytes : Nat) (ht : P.underlying t = some (.slice e)) (hi : P.info? e = some i) (hz : i.zero = some z)
  (hsize : i.size = size) (hby : i.bytes = bytes) (hzs : z.cells.size = size) (hpos : 0 < size) (v : Value) (n : Nat) (xs : List Value) (hs : a.eval s = v) (hown : w.ownsRow base e size v n xs)
  (base2 : Nat) (v2 : Value) (m : Nat) (ys : List Value) (hx : a.eval x = v2) (hown2 : w.ownsRow base2 e size v2 m ys) (h1 : ∀ u ∈ ys, u.oneCell' = true)
  (h63 : n + m <= maxLen) (hbytes : (n + m) * bytes <= 140737488355328) (hbase : base <= w.heap.size)
  (h : ∀ v' w', w'.ownsRow base e size v' (n + m) (xs ++ ys) -> w.grownBy w' v.ownBlock -> (v'.ownBlock = v.ownBlock \/ v'.ownBlock = some w.heap.size) -> wpList P ops Q rest (a.put o.dst v') w') : wpList P ops Q (o :: rest) a w :=
 wpList_plain hgd fun _ hK => zCb w s x t ho base e i z size bytes ht hi hz hsize hby hzs hpos v n xs hs hown base2 v2 m ys hx hown2 h1 h63 hbytes hbase fun v' w' h2 h3 h4 => hK _ _ (h v' w' h2 h3 h4)
theorem zAF {P : Program} (w : World) {ops : Array Oper} {o : Oper} {a : Act} {K : Act -> World -> Prop} {Q : Exit -> Act -> World -> Prop} {E : Prop} (hgd : o.guard = none) (s x : Operand) (t : TypeId)
  (ho : o.op = .call { callee := .builtin .append, args := #[s, x], argTypes := #[t, t] })
  (base : Nat) (e : TypeId) (i : TypeInfo) (z : Value) (size bytes : Nat) (ht : P.underlying t = some (.slice e)) (hi : P.info? e = some i) (hz : i.zero = some z)
  (hsize : i.size = size) (hby : i.bytes = bytes) (hzs : z.cells.size = size) (hpos : 0 < size) (v : Value) (n : Nat) (xs : List Value) (hs : a.eval s = v) (hown : w.ownsRow base e size v n xs)
  (base2 : Nat) (v2 : Value) (m : Nat) (ys : List Value) (hx : a.eval x = v2) (hown2 : w.ownsRow base2 e size v2 m ys) (h1 : ∀ u ∈ ys, u.oneCell' = true)
  (h63 : n + m <= maxLen) (hbytes : (n + m) * bytes <= 140737488355328) (hbase : base <= w.heap.size)
  (h : ∀ v' w', w'.ownsRow base e size v' (n + m) (xs ++ ys) -> w.grownBy w' v.ownBlock -> (v'.ownBlock = v.ownBlock \/ v'.ownBlock = some w.heap.size) -> K (a.put o.dst v') w') :
  if Region.wanted o (yielded ops a.tmps) = true then Oper.wp P o a w K Q else E := by
 have hw : Region.wanted o (yielded ops a.tmps) = true := by simp [Region.wanted, hgd]
 rw [if_pos hw]
 exact zCb w s x t ho base e i z size bytes ht hi hz hsize hby hzs hpos v n xs hs hown base2 v2 m ys hx hown2 h1 h63 hbytes hbase h
theorem zAG {w : World} {base size n : Nat} {e : TypeId} {v : Value} {xs : List Value} (h : w.ownsRow base e size v n xs) : ∃ a cap, v = .slice a n cap := by
 rcases h.2 with ⟨rfl, rfl⟩ | ⟨g, cap, cur, rfl, _⟩
 ·exact ⟨_, _, rfl⟩
 ·exact ⟨_, _, rfl⟩
theorem zAy {w : World} {b b' size n : Nat} {e : TypeId} {v : Value} {xs : List Value} (h : w.ownsRow b e size v n xs) (hb : b' <= b) : w.ownsRow b' e size v n xs := by
 obtain ⟨h1, h2⟩ := h
 refine ⟨h1, h2.imp id ?_⟩
 rintro ⟨g, cap, cur, h3, h4, h5⟩
 exact ⟨g, cap, cur, h3, Nat.le_trans hb h4, h5⟩
def Bk (q : Nat) (cs : Array Value) (T : TypeId) (w : World) : Prop := w.heap[q]? = some (.cells cs T)
theorem Bk.new (w : World) (cs : Array Value) (T : TypeId) (n : Nat) (hn : n = w.heap.size) : Bk n cs T (w.alloc (.cells cs T)) := by
 subst hn
 exact heap_alloc_new w _
theorem Bk.lt {q : Nat} {cs : Array Value} {T : TypeId} {w : World} (h : Bk q cs T w) : q < w.heap.size := by
 rcases Nat.lt_or_ge q w.heap.size with h1 | h1
 ·exact h1
 ·unfold Bk at h
  rw [Array.getElem?_eq_none h1] at h
  cases h
theorem Bk.fr {q : Nat} {cs : Array Value} {T : TypeId} {S : Nat -> Prop} {w w' : World} (h : Bk q cs T w) (k : Sep.Fr S w w') (hq : ¬ S q) : Bk q cs T w' := (k.block q h.lt hq).trans h
theorem Bk.went {q : Nat} {cs : Array Value} {T : TypeId} {w w' : World} (h : Bk q cs T w) (k : Below w.heap.size w w') : Bk q cs T w' := (k.block q h.lt).trans h
theorem Bk.cell {q : Nat} {cs : Array Value} {T : TypeId} {w : World} (h : Bk q cs T w) {j : Nat} {v : Value} (hv : cs[j]? = some v) : w.cell? ⟨q, j, none⟩ = some v := by
 unfold Bk at h
 simp [World.cell?, h, hv]
theorem Bk.free {q : Nat} {cs : Array Value} {T : TypeId} {w : World} (h : Bk q cs T w) (j : Nat) : w.frozen? ⟨q, j, none⟩ = false := by
 unfold Bk at h
 simp [World.frozen?, h]
theorem zC2 (w : World) (a : Addr) (v : Value) : (w.setCell a v).heap.size = w.heap.size := by simp [World.setCell]
theorem Bk.set {q j : Nat} {cs : Array Value} {T : TypeId} {w : World} (h : Bk q cs T w) (hj : j < cs.size) (v : Value) : Bk q (cs.setIfInBounds j v) T (w.setCell ⟨q, j, none⟩ v) := by
 unfold Bk at h ⊢
 obtain ⟨hl, h⟩ := Array.getElem?_eq_some_iff.1 h
 rw [Array.getElem?_eq_some_iff]
 refine ⟨by rw [zC2]; exact hl, ?_⟩
 simp [World.setCell, Array.getElem_modify, h]
theorem Bk.two {q : Nat} {a b : Value} {T : TypeId} {w : World} (h : Bk q #[a, b] T w) : w.cell? ⟨q, 0, none⟩ = some a /\ w.cell? ⟨q, 1, none⟩ = some b /\ (∀ j, w.frozen? ⟨q, j, none⟩ = false) := ⟨h.cell rfl, h.cell rfl, h.free⟩
theorem zDF {S : Nat -> Prop} {w w1 w2 : World} (h : Sep.Fr S w w1) (k : Below w1.heap.size w1 w2) : Sep.Fr S w w2 := h.trans (Sep.Fr.of_below (S := S) k) fun _ hk => .inl hk
theorem zBW {α : Type} (f : α -> List Value) (hf : ∀ x, (f x).length = 2) (L : List α) (j : Nat) (hj : j < L.length) (i : Nat) (hi : i < 2) : (L.flatMap f)[j * 2 + i]? = (f L[j])[i]? := by
 induction L generalizing j with
 | nil => simp at hj
 | cons t T ih =>
  rw [List.flatMap_cons]
  cases j with
  | zero => rw [List.getElem?_append_left (by rw [hf]; omega)]; simp
  | succ j =>
   rw [List.getElem?_append_right (by rw [hf]; omega), hf, show (j + 1) * 2 + i - 2 = j * 2 + i by omega, ih j (by simpa using hj)]
   simp
end Rw
namespace Im
def ic (x : Itm) : List Value := [.int .i64 x.1, .int .i64 x.2]
theorem zBf (x : Itm) : (ic x).length = 2 := rfl
theorem zAk (X : List Itm) : (X.flatMap ic).length = X.length * 2 := by
 induction X with
 | nil => rfl
 | cons x X ih =>
  rw [List.flatMap_cons, List.length_append, ih, zBf, List.length_cons]
  omega
theorem zP8 (X : List Itm) : ∀ u ∈ X.flatMap ic, u.oneCell' = true := fun u hu => by
 rw [List.mem_flatMap] at hu
 obtain ⟨x, _, h⟩ := hu
 simp only [ic, List.mem_cons, List.not_mem_nil, or_false] at h
 rcases h with rfl | rfl <;> rfl
theorem zI2 (X Y : List Itm) : (X ++ Y).flatMap ic = X.flatMap ic ++ Y.flatMap ic := List.flatMap_append
theorem zNM (X : List Itm) (k : Nat) : (X.take k).flatMap ic = (X.flatMap ic).take (k * 2) := by
 induction X generalizing k with
 | nil => simp
 | cons x X ih =>
  cases k with
  | zero => simp
  | succ k =>
   rw [List.take_succ_cons, List.flatMap_cons, ih, List.flatMap_cons, show (k + 1) * 2 = (ic x).length + k * 2 by rw [zBf]; omega, List.take_append, List.take_of_length_le (Nat.le_add_right ..)]
   simp
def ItsA (a : Option Addr) (X : List Itm) (w : World) : Prop := Sep.Reads a (X.flatMap ic) w
theorem ItsA.nil (a : Option Addr) (w : World) : ItsA a [] w := Sep.Reads.nil a w
theorem ItsA.keep {a : Option Addr} {X : List Itm} {w w' : World} (h : ItsA a X w) (hb : ∀ b o, a = some ⟨b, o, none⟩ -> w'.heap[b]? = w.heap[b]?) : ItsA a X w' := Sep.Reads.keep h hb
theorem ItsA.below {a : Option Addr} {X : List Itm} {m : Nat} {w w' : World} (h : ItsA a X w) (hb : Below m w w') (hm : w.heap.size <= m) : ItsA a X w' := Sep.Reads.below h hb hm
theorem ItsA.went {a : Option Addr} {X : List Itm} {w w' : World} (h : ItsA a X w) (hb : Below w.heap.size w w') : ItsA a X w' := h.below hb (Nat.le_refl _)
theorem ItsA.at {a : Option Addr} {X : List Itm} {w : World} (h : ItsA a X w) (i : Nat) (hi : i < X.length) :
  ∃ b o, a = some ⟨b, o, none⟩ /\ w.cell? ⟨b, o + i * 2, none⟩ = some (.int .i64 X[i].1) /\ w.cell? ⟨b, o + i * 2 + 1, none⟩ = some (.int .i64 X[i].2) := by
 have hl := zAk X
 obtain ⟨b, o, e, h0⟩ := h (i * 2) (by omega)
 obtain ⟨b', o', e', h1⟩ := h (i * 2 + 1) (by omega)
 rw [e] at e'
 simp only [Option.some.injEq, Addr.mk.injEq, and_true] at e'
 obtain ⟨rfl, rfl⟩ := e'
 have g0 := Rw.zBW ic zBf X i hi 0 (by omega)
 have g1 := Rw.zBW ic zBf X i hi 1 (by omega)
 rw [List.getElem?_eq_getElem (by omega)] at g0 g1
 refine ⟨b, o, e, ?_, ?_⟩
 ·rw [h0]
  rw [← Option.some.injEq] at g0
  exact congrArg some (by simpa [ic] using g0)
 ·rw [show o + i * 2 + 1 = o + (i * 2 + 1) by omega, h1]
  exact congrArg some (by simpa [ic] using g1)
theorem ItsA.take {a : Option Addr} {X : List Itm} {w : World} (h : ItsA a X w) (k : Nat) : ItsA a (X.take k) w := fun i hi => by
 have hl := zAk X
 have hi' := hi
 rw [zAk, List.length_take] at hi
 obtain ⟨b, o, e, hc⟩ := h i (by omega)
 refine ⟨b, o, e, ?_⟩
 rw [hc]
 congr 1
 simp only [zNM, List.getElem_take]
def ItsV (T : TypeId) (base : Nat) (X : List Itm) (v : Value) (w : World) : Prop := w.ownsRow base T 2 v X.length (X.flatMap ic)
theorem ItsV.nil (T : TypeId) (base : Nat) (w : World) : ItsV T base [] (.slice none 0 0) w := World.ownsRow_nil _ _ _ _
theorem ItsV.keep {T : TypeId} {base : Nat} {X : List Itm} {v : Value} {w w' : World} (h : ItsV T base X v w) (hb : ∀ g, v.ownBlock = some g -> w'.heap[g]? = w.heap[g]?) : ItsV T base X v w' := Sep.zAD h hb
theorem ItsV.went {T : TypeId} {base : Nat} {X : List Itm} {v : Value} {w w' : World} (h : ItsV T base X v w) (hb : Below w.heap.size w w') : ItsV T base X v w' := h.keep fun g hg => hb.block g (World.ownsRow.lt h g hg).2
theorem ItsV.mono {T : TypeId} {b b' : Nat} {X : List Itm} {v : Value} {w : World} (h : ItsV T b X v w) (hb : b' <= b) : ItsV T b' X v w := Rw.zAy h hb
theorem ItsV.shape {T : TypeId} {base : Nat} {X : List Itm} {v : Value} {w : World} (h : ItsV T base X v w) : ∃ a c, v = .slice a X.length c /\ X.length <= c := by
 rcases h.2 with ⟨rfl, h0⟩ | ⟨g, cap, cur, rfl, _, _, h5, _⟩
 ·exact ⟨none, 0, by rw [h0], by omega⟩
 ·exact ⟨_, cap, rfl, h5⟩
theorem ItsV.reads {T : TypeId} {base : Nat} {X : List Itm} {a : Option Addr} {c : Nat} {w : World} (h : ItsV T base X (.slice a X.length c) w) : ItsA a X w := fun i hi => by
 have hl := zAk X
 rcases h.2 with ⟨_, h0⟩ | ⟨g, cap, cur, he, _⟩
 ·omega
 ·simp only [Value.slice.injEq] at he
  obtain ⟨rfl, _, _⟩ := he
  refine ⟨g, 0, rfl, ?_⟩
  have := World.ownsRow.cells h (g := g) rfl i _ (List.getElem?_eq_getElem hi)
  rw [WideShapes.add_plain] at this
  simpa using this
theorem zDe (T : TypeId) (base q : Nat) (x : Itm) (w : World) (hq : q = w.heap.size) (hb : base <= q) : (w.alloc (.cells #[.int .i64 x.1, .int .i64 x.2] T)).ownsRow base T 2 (.slice (some ⟨q, 0, none⟩) 1 1) 1 (ic x) := by
 subst hq
 exact World.ownsRow_lit w #[.int .i64 x.1, .int .i64 x.2] 1 hb (by decide) (by simp)
theorem ItsV.of_append {T : TypeId} {base n m : Nat} {X Y : List Itm} {v : Value} {w : World} (h : w.ownsRow base T 2 v (n + m) (X.flatMap ic ++ Y.flatMap ic)) (hn : n = X.length) (hm : m = Y.length) : ItsV T base (X ++ Y) v w := by
 subst hn hm
 unfold ItsV
 rw [List.length_append, zI2]
 exact h
