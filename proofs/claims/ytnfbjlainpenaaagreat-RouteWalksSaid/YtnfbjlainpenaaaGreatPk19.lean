/- A part of the proof. -/
import Derived.Test.YtnfbjlainpenaaaGreatPk15
import Derived.Test.YtnfbjlainpenaaaGreatPk18
import Derived.Test.YtnfbjlainpenaaaGreatPk17
import Derived.Test.YtnfbjlainpenaaaGreatPk06
set_option maxHeartbeats 4000000
set_option maxRecDepth 100000
set_option linter.unusedVariables false
namespace Go.Proofs.YtnfbjlainpenaaaGreat
namespace Rw
open Go.RowKit Go.Maps
theorem zDC {P : Program} (w : World) (t ty : TypeId) (base : Nat) (e : TypeId) (i : TypeInfo) (z : Value) (size bytes : Nat) (ht : P.underlying t = some (.slice e)) (hi : P.info? e = some i) (hz : i.zero = some z)
  (hsize : i.size = size) (hby : i.bytes = bytes) (hzs : z.cells.size = size) (hpos : 0 < size) (v : Value) (n : Nat) (xs : List Value) (hown : w.ownsRow base e size v n xs)
  (a : Option Addr) (m c : Nat) (news : List Value) (hl : news.length = m * size) (hr : ∀ ad, a = some ad -> ∀ j u, news[j]? = some u -> w.cell? (ad.add j) = some u) (hn : a = none -> m = 0) (h1 : ∀ u ∈ news, u.oneCell' = true)
  (h63 : n + m <= maxLen) (hbytes : (n + m) * bytes <= 140737488355328) (hbase : base <= w.heap.size) :
  ∃ v' w', (Builtin.append_ #[t, t] ty #[v, .slice a m c]).run P w = .ok v' w' /\ w'.ownsRow base e size v' (n + m) (xs ++ news) /\ w.grownBy w' v.ownBlock /\ (v'.ownBlock = v.ownBlock \/ v'.ownBlock = some w.heap.size) := by
 cases a with
 | some ad =>
  obtain ⟨v', w', h2, h3, h4, _, h5⟩ := run_append_own_at (P := P) w base t ty e i z size bytes ht hi hz hsize hby hzs hpos v n xs hown ad m c news hl (hr ad rfl) h1 h63 hbytes hbase
  exact ⟨v', w', h2, h3, h4, h5⟩
 | none =>
  obtain rfl := hn rfl
  have h0 : news = [] := List.eq_nil_of_length_eq_zero (by simpa using hl)
  subst h0
  refine ⟨v, w, ?_, by simpa using hown, ⟨rfl, rfl, rfl, Nat.le_refl _, fun _ _ _ => rfl⟩, .inl rfl⟩
  rcases hown.2 with ⟨rfl, rfl⟩ | ⟨g, cap, cur, rfl, hbg, hg, hnc, hcm, hcs, htake⟩
  ·simp [Builtin.append_, run_underlying ht, sizeOf, typeInfo, hi, Builtin.lenOf, Builtin.firstCells]
  ·simp [Builtin.append_, run_underlying ht, sizeOf, typeInfo, hi, Builtin.lenOf, Builtin.firstCells, loadCells, storeCells, hnc]
theorem zEK {P : Program} (w : World) {o : Oper} {a : Act} {K : Act -> World -> Prop} {Q : Exit -> Act -> World -> Prop} (s x : Operand) (t : TypeId)
  (ho : o.op = .call { callee := .builtin .append, args := #[s, x], argTypes := #[t, t] })
  (base : Nat) (e : TypeId) (i : TypeInfo) (z : Value) (size bytes : Nat) (ht : P.underlying t = some (.slice e)) (hi : P.info? e = some i) (hz : i.zero = some z)
  (hsize : i.size = size) (hby : i.bytes = bytes) (hzs : z.cells.size = size) (hpos : 0 < size) (v : Value) (n : Nat) (xs : List Value) (hs : a.eval s = v) (hown : w.ownsRow base e size v n xs)
  (ad : Option Addr) (m c : Nat) (news : List Value) (hx : a.eval x = .slice ad m c) (hl : news.length = m * size) (hr : ∀ p, ad = some p -> ∀ j u, news[j]? = some u -> w.cell? (p.add j) = some u) (hn : ad = none -> m = 0) (h1 : ∀ u ∈ news, u.oneCell' = true)
  (h63 : n + m <= maxLen) (hbytes : (n + m) * bytes <= 140737488355328) (hbase : base <= w.heap.size)
  (h : ∀ v' w', w'.ownsRow base e size v' (n + m) (xs ++ news) -> w.grownBy w' v.ownBlock -> (v'.ownBlock = v.ownBlock \/ v'.ownBlock = some w.heap.size) -> K (a.put o.dst v') w') : o.wp P a w K Q := by
 obtain ⟨v', w', hr, h2, h3, h4⟩ := zDC (P := P) w t o.type base e i z size bytes ht hi hz hsize hby hzs hpos v n xs hown ad m c news hl hr hn h1 h63 hbytes hbase
 unfold Oper.wp execOp
 simp only [ho, resolve, invoke, builtin, Sem.run_bind, Sem.run_pure, Result.andThen_ok, List.map_toArray, List.map_cons, List.map_nil, hs, hx, hr]
 exact h v' w' h2 h3 h4
theorem zBf {P : Program} (w : World) {ops : Array Oper} {o : Oper} {a : Act} {K : Act -> World -> Prop} {Q : Exit -> Act -> World -> Prop} {E : Prop} (hgd : o.guard = none) (s x : Operand) (t : TypeId)
  (ho : o.op = .call { callee := .builtin .append, args := #[s, x], argTypes := #[t, t] })
  (base : Nat) (e : TypeId) (i : TypeInfo) (z : Value) (size bytes : Nat) (ht : P.underlying t = some (.slice e)) (hi : P.info? e = some i) (hz : i.zero = some z)
  (hsize : i.size = size) (hby : i.bytes = bytes) (hzs : z.cells.size = size) (hpos : 0 < size) (v : Value) (n : Nat) (xs : List Value) (hs : a.eval s = v) (hown : w.ownsRow base e size v n xs)
  (ad : Option Addr) (m c : Nat) (news : List Value) (hx : a.eval x = .slice ad m c) (hl : news.length = m * size) (hr : ∀ p, ad = some p -> ∀ j u, news[j]? = some u -> w.cell? (p.add j) = some u) (hn : ad = none -> m = 0) (h1 : ∀ u ∈ news, u.oneCell' = true)
  (h63 : n + m <= maxLen) (hbytes : (n + m) * bytes <= 140737488355328) (hbase : base <= w.heap.size)
  (h : ∀ v' w', w'.ownsRow base e size v' (n + m) (xs ++ news) -> w.grownBy w' v.ownBlock -> (v'.ownBlock = v.ownBlock \/ v'.ownBlock = some w.heap.size) -> K (a.put o.dst v') w') :
  if Region.wanted o (yielded ops a.tmps) = true then Oper.wp P o a w K Q else E := by
 have hw : Region.wanted o (yielded ops a.tmps) = true := by simp [Region.wanted, hgd]
 rw [if_pos hw]
 exact zEK w s x t ho base e i z size bytes ht hi hz hsize hby hzs hpos v n xs hs hown ad m c news hx hl hr hn h1 h63 hbytes hbase h
theorem zKi {w : World} {base q size : Nat} {e : TypeId} (hq : w.heap[q]? = some (.cells #[] e (0, 0))) (hb : base <= q) : w.ownsRow base e size (.slice (some ⟨q, 0, none⟩) 0 0) 0 [] :=
 ⟨by simp, .inr ⟨q, 0, #[], rfl, hb, hq, Nat.le_refl _, by unfold maxLen; omega, by simp, by simp⟩⟩
end Rw
namespace Im
open Go.RowKit Go.Maps
def ic (x : Itm) : List Value := [.int .i64 x.1, .int .i64 x.2]
theorem zA2 (x : Itm) : (ic x).length = 2 := rfl
theorem zAL (X : List Itm) : (X.flatMap ic).length = X.length * 2 := by
 induction X with
 | nil => rfl
 | cons x X ih =>
  rw [List.flatMap_cons, List.length_append, ih, zA2, List.length_cons]
  omega
theorem zIM (X : List Itm) : ∀ u ∈ X.flatMap ic, u.oneCell' = true := fun u hu => by
 rw [List.mem_flatMap] at hu
 obtain ⟨x, _, h⟩ := hu
 simp only [ic, List.mem_cons, List.not_mem_nil, or_false] at h
 rcases h with rfl | rfl <;> rfl
theorem zDV (X Y : List Itm) : (X ++ Y).flatMap ic = X.flatMap ic ++ Y.flatMap ic := List.flatMap_append
theorem zJ6 (X : List Itm) (k : Nat) : (X.drop k).flatMap ic = (X.flatMap ic).drop (k * 2) := by
 induction X generalizing k with
 | nil => simp
 | cons x X ih =>
  cases k with
  | zero => simp
  | succ k =>
   rw [List.drop_succ_cons, ih, List.flatMap_cons, show (k + 1) * 2 = (ic x).length + k * 2 by rw [zA2]; omega, List.drop_append]
   simp
theorem zJ7 (X : List Itm) (k : Nat) : (X.take k).flatMap ic = (X.flatMap ic).take (k * 2) := by
 induction X generalizing k with
 | nil => simp
 | cons x X ih =>
  cases k with
  | zero => simp
  | succ k =>
   rw [List.take_succ_cons, List.flatMap_cons, ih, List.flatMap_cons, show (k + 1) * 2 = (ic x).length + k * 2 by rw [zA2]; omega, List.take_append, List.take_of_length_le (Nat.le_add_right ..)]
   simp
def ItsA (a : Option Addr) (X : List Itm) (w : World) : Prop := Sep.Reads a (X.flatMap ic) w
theorem ItsA.nil (a : Option Addr) (w : World) : ItsA a [] w := Sep.Reads.nil a w
theorem ItsA.keep {a : Option Addr} {X : List Itm} {w w' : World} (h : ItsA a X w) (hb : ∀ b o, a = some ⟨b, o, none⟩ -> w'.heap[b]? = w.heap[b]?) : ItsA a X w' := Sep.Reads.keep h hb
theorem ItsA.below {a : Option Addr} {X : List Itm} {m : Nat} {w w' : World} (h : ItsA a X w) (hb : Below m w w') (hm : w.heap.size <= m) : ItsA a X w' := Sep.Reads.below h hb hm
theorem ItsA.went {a : Option Addr} {X : List Itm} {w w' : World} (h : ItsA a X w) (hb : Below w.heap.size w w') : ItsA a X w' := h.below hb (Nat.le_refl _)
theorem ItsA.at {a : Option Addr} {X : List Itm} {w : World} (h : ItsA a X w) (i : Nat) (hi : i < X.length) :
  ∃ b o, a = some ⟨b, o, none⟩ /\ w.cell? ⟨b, o + i * 2, none⟩ = some (.int .i64 X[i].1) /\ w.cell? ⟨b, o + i * 2 + 1, none⟩ = some (.int .i64 X[i].2) := by
 have hl := zAL X
 obtain ⟨b, o, e, h0⟩ := h (i * 2) (by omega)
 obtain ⟨b', o', e', h1⟩ := h (i * 2 + 1) (by omega)
 rw [e] at e'
 simp only [Option.some.injEq, Addr.mk.injEq, and_true] at e'
 obtain ⟨rfl, rfl⟩ := e'
 have g0 := Rw.zDm ic zA2 X i hi 0 (by omega)
 have g1 := Rw.zDm ic zA2 X i hi 1 (by omega)
 rw [List.getElem?_eq_getElem (by omega)] at g0 g1
 refine ⟨b, o, e, ?_, ?_⟩
 ·rw [h0]
  rw [← Option.some.injEq] at g0
  exact congrArg some (by simpa [ic] using g0)
 ·rw [show o + i * 2 + 1 = o + (i * 2 + 1) by omega, h1]
  exact congrArg some (by simpa [ic] using g1)
theorem ItsA.drop {b o : Nat} {X : List Itm} {w : World} (h : ItsA (some ⟨b, o, none⟩) X w) (k : Nat) : ItsA (some ⟨b, o + k * 2, none⟩) (X.drop k) w := fun i hi => by
 have hl := zAL X
 rw [zAL, List.length_drop] at hi
 obtain ⟨b', o', e, hc⟩ := h (k * 2 + i) (by omega)
 simp only [Option.some.injEq, Addr.mk.injEq, and_true] at e
 obtain ⟨rfl, rfl⟩ := e
 refine ⟨b, o + k * 2, rfl, ?_⟩
 rw [show o + k * 2 + i = o + (k * 2 + i) by omega, hc]
 congr 1
 simp only [zJ6, List.getElem_drop]
theorem ItsA.take {a : Option Addr} {X : List Itm} {w : World} (h : ItsA a X w) (k : Nat) : ItsA a (X.take k) w := fun i hi => by
 have hl := zAL X
 have hi' := hi
 rw [zAL, List.length_take] at hi
 obtain ⟨b, o, e, hc⟩ := h i (by omega)
 refine ⟨b, o, e, ?_⟩
 rw [hc]
 congr 1
 simp only [zJ7, List.getElem_take]
theorem ItsA.lie {a : Option Addr} {X : List Itm} {w : World} (h : ItsA a X w) : (∀ p, a = some p -> ∀ j u, (X.flatMap ic)[j]? = some u -> w.cell? (p.add j) = some u) /\ (a = none -> X.length = 0) := by
 constructor
 ·intro p hp j u hu
  obtain ⟨hj, rfl⟩ := List.getElem?_eq_some_iff.1 hu
  obtain ⟨b, o, e, hc⟩ := h j hj
  rw [hp] at e
  simp only [Option.some.injEq] at e
  subst e
  rw [WideShapes.add_plain]
  exact hc
 ·intro ha
  rcases Nat.eq_zero_or_pos X.length with h0 | h0
  ·exact h0
  ·obtain ⟨b, o, e, _⟩ := h.at 0 h0
   rw [ha] at e
   cases e
def ItsV (T : TypeId) (base : Nat) (X : List Itm) (v : Value) (w : World) : Prop := w.ownsRow base T 2 v X.length (X.flatMap ic)
theorem ItsV.nil (T : TypeId) (base : Nat) (w : World) : ItsV T base [] (.slice none 0 0) w := World.ownsRow_nil _ _ _ _
theorem ItsV.keep {T : TypeId} {base : Nat} {X : List Itm} {v : Value} {w w' : World} (h : ItsV T base X v w) (hb : ∀ g, v.ownBlock = some g -> w'.heap[g]? = w.heap[g]?) : ItsV T base X v w' := Sep.zAG h hb
theorem ItsV.went {T : TypeId} {base : Nat} {X : List Itm} {v : Value} {w w' : World} (h : ItsV T base X v w) (hb : Below w.heap.size w w') : ItsV T base X v w' := h.keep fun g hg => hb.block g (World.ownsRow.lt h g hg).2
theorem ItsV.mono {T : TypeId} {b b' : Nat} {X : List Itm} {v : Value} {w : World} (h : ItsV T b X v w) (hb : b' <= b) : ItsV T b' X v w := Rw.zKh h hb
theorem ItsV.shape {T : TypeId} {base : Nat} {X : List Itm} {v : Value} {w : World} (h : ItsV T base X v w) : ∃ a c, v = .slice a X.length c /\ X.length <= c := by
 rcases h.2 with ⟨rfl, h0⟩ | ⟨g, cap, cur, rfl, _, _, h5, _⟩
 ·exact ⟨none, 0, by rw [h0], by omega⟩
 ·exact ⟨_, cap, rfl, h5⟩
theorem ItsV.reads {T : TypeId} {base : Nat} {X : List Itm} {a : Option Addr} {c : Nat} {w : World} (h : ItsV T base X (.slice a X.length c) w) : ItsA a X w := fun i hi => by
 have hl := zAL X
 rcases h.2 with ⟨_, h0⟩ | ⟨g, cap, cur, he, _⟩
 ·omega
 ·simp only [Value.slice.injEq] at he
  obtain ⟨rfl, _, _⟩ := he
  refine ⟨g, 0, rfl, ?_⟩
  have := World.ownsRow.cells h (g := g) rfl i _ (List.getElem?_eq_getElem hi)
  rw [WideShapes.add_plain] at this
  simpa using this
theorem zBi (T : TypeId) (base q : Nat) (x : Itm) (w : World) (hq : q = w.heap.size) (hb : base <= q) : (w.alloc (.cells #[.int .i64 x.1, .int .i64 x.2] T)).ownsRow base T 2 (.slice (some ⟨q, 0, none⟩) 1 1) 1 (ic x) := by
 subst hq
 exact World.ownsRow_lit w #[.int .i64 x.1, .int .i64 x.2] 1 hb (by decide) (by simp)
theorem ItsV.of_append {T : TypeId} {base n m : Nat} {X Y : List Itm} {v : Value} {w : World} (h : w.ownsRow base T 2 v (n + m) (X.flatMap ic ++ Y.flatMap ic)) (hn : n = X.length) (hm : m = Y.length) : ItsV T base (X ++ Y) v w := by
 subst hn hm
 unfold ItsV
 rw [List.length_append, zDV]
 exact h
end Im
namespace Le
open Go.RowKit Go.Maps
open Gr (boxed ivs)
def WAt (q : Nat) (x : List Int) (v : Value) (w : World) : Prop := ∃ a c, v = .slice a x.length c /\ Sep.Reads a (ivs x) w /\ ∀ b o, a = some ⟨b, o, none⟩ -> x ≠ [] -> b ≠ q
theorem WAt.fr {q : Nat} {x : List Int} {v : Value} {w w' : World} {S : Nat -> Prop} (h : WAt q x v w) (hF : Sep.Fr S w w') (hS : ∀ k, S k -> k = q \/ w.heap.size <= k) : WAt q x v w' := by
 obtain ⟨a, c, rfl, hR, hq⟩ := h
 refine ⟨a, c, rfl, fun i hi => ?_, hq⟩
 obtain ⟨b, o, e, hc⟩ := hR i hi
 refine ⟨b, o, e, hF.cell hc fun hs => ?_⟩
 have hl := World.block_lt_of_cell? w ⟨b, o + i, none⟩ hc
 have hn : x ≠ [] := fun e => by subst e; simp [ivs] at hi
 rcases hS _ hs with h1 | h1
 ·exact hq b o e hn h1
 ·simp at hl h1
  omega
theorem zJc (q : Nat) (w : World) : WAt q [] (.slice none 0 0) w := ⟨none, 0, rfl, .nil _ _, fun _ _ h => by cases h⟩
theorem zMY {q n c : Nat} {x : List Int} {a : Option Addr} {W w : World} (h : Sep.Reads a (ivs x) w) (hn : Gr.New a W) (hq : q < W.heap.size) (hl : x.length = n) : WAt q x (.slice a n c) w :=
 ⟨a, c, by rw [hl], h, fun b o e _ => by have := hn _ e; simp at this; omega⟩
structure LAt (q n : Nat) (T : Int -> Ans) (w : World) : Prop where
 len : ∀ s : Nat, s < n -> w.cell? ⟨q, s * 2, none⟩ = some (.int .i64 (lenA (T (s : Int)) : Int))
 word : ∀ s : Nat, s < n -> ∃ v, w.cell? ⟨q, s * 2 + 1, none⟩ = some v /\ WAt q (zAK (T (s : Int))) v w
 free : ∀ j : Nat, w.frozen? ⟨q, j, none⟩ = false
 lt : q < w.heap.size
theorem LAt.fr {q n : Nat} {T : Int -> Ans} {w w' : World} {S : Nat -> Prop} (h : LAt q n T w) (hF : Sep.Fr S w w') (hS : ∀ k, S k -> w.heap.size <= k) : LAt q n T w' := by
 have hb : w'.heap[q]? = w.heap[q]? := hF.block q h.lt fun k => by have := hS _ k; have := h.lt; omega
 refine ⟨fun s hs => (World.cell?_of_block (a := ⟨q, s * 2, none⟩) hb).trans (h.len s hs), fun s hs => ?_, fun x => (World.frozen?_of_block (a := ⟨q, x, none⟩) hb).trans (h.free x), Nat.lt_of_lt_of_le h.lt hF.size⟩
 obtain ⟨v, h1, h2⟩ := h.word s hs
 exact ⟨v, (World.cell?_of_block (a := ⟨q, s * 2 + 1, none⟩) hb).trans h1, h2.fr hF fun k hk => .inr (hS k hk)⟩
theorem LAt.went {q n : Nat} {T : Int -> Ans} {w w' : World} (h : LAt q n T w) (hb : Below w.heap.size w w') : LAt q n T w' :=
 h.fr (S := fun _ => False) (Sep.Fr.of_below hb) fun _ k => k.elim
theorem LAt.set {q n : Nat} {T : Int -> Ans} {w : World} (h : LAt q n T w) {s : Nat} (hs : s < n) {a : Ans} {v : Value} (hv : WAt q (zAK a) v w) :
  LAt q n (setA T (s : Int) a) ((w.setCell ⟨q, s * 2, none⟩ (.int .i64 (lenA a : Int))).setCell ⟨q, s * 2 + 1, none⟩ v) := by
 have hF : Sep.Fr (fun k => k = q) w ((w.setCell ⟨q, s * 2, none⟩ (.int .i64 (lenA a : Int))).setCell ⟨q, s * 2 + 1, none⟩ v) :=
  ((Sep.Fr.refl (fun k => k = q) w).setCell ⟨q, s * 2, none⟩ rfl _).setCell ⟨q, s * 2 + 1, none⟩ rfl _
 have ne : ∀ {i j : Nat}, i ≠ j -> (⟨q, i, none⟩ : Addr) ≠ ⟨q, j, none⟩ := fun hij e => hij (congrArg Addr.off e)
 refine ⟨fun t ht => ?_, fun t ht => ?_, fun x => by rw [World.frozen?_setCell, World.frozen?_setCell]; exact h.free x, by simpa [World.setCell] using h.lt⟩
 ·rw [World.cell?_setCell_other _ _ _ _ (ne (by omega))]
  by_cases e : t = s
  ·subst e
   rw [zBB]
   exact World.cell?_setCell_same _ _ _ (h.len t ht)
  ·rw [World.cell?_setCell_other _ _ _ _ (ne (by omega)), zAi _ _ (by omega)]
   exact h.len t ht
 ·obtain ⟨u, h1, h2⟩ := h.word t ht
  by_cases e : t = s
  ·subst e
   rw [zBB]
   refine ⟨v, World.cell?_setCell_same _ _ _ (by rw [World.cell?_setCell_other _ _ _ _ (ne (by omega))]; exact h1), hv.fr hF fun k hk => .inl hk⟩
  ·rw [zAi _ _ (by omega)]
   refine ⟨u, ?_, h2.fr hF fun k hk => .inl hk⟩
   rw [World.cell?_setCell_other _ _ _ _ (ne (by omega)), World.cell?_setCell_other _ _ _ _ (ne (by omega))]
   exact h1
structure TAt (p q n : Nat) (T : Int -> Ans) (w : World) : Prop where
 ptr : w.cell? ⟨p, 0, none⟩ = some (.slice (some ⟨q, 0, none⟩) n n)
 list : LAt q n T w
 ne : p ≠ q
 small : n <= 10000
 ok : TOk n T
theorem TAt.fr {p q n : Nat} {T : Int -> Ans} {w w' : World} {S : Nat -> Prop} (h : TAt p q n T w) (hF : Sep.Fr S w w') (hS : ∀ k, S k -> w.heap.size <= k) : TAt p q n T w' :=
 ⟨hF.cell h.ptr fun k => by have := hS _ k; have := World.block_lt_of_cell? w _ h.ptr; omega, h.list.fr hF hS, h.ne, h.small, h.ok⟩
theorem TAt.went {p q n : Nat} {T : Int -> Ans} {w w' : World} (h : TAt p q n T w) (hb : Below w.heap.size w w') : TAt p q n T w' :=
 h.fr (S := fun _ => False) (Sep.Fr.of_below hb) fun _ k => k.elim
theorem TAt.set {p q n : Nat} {T : Int -> Ans} {w : World} (h : TAt p q n T w) {s : Nat} (hs : s < n) {a : Ans} {v : Value} (hv : WAt q (zAK a) v w) (ha : Bd a) :
  TAt p q n (setA T (s : Int) a) ((w.setCell ⟨q, s * 2, none⟩ (.int .i64 (lenA a : Int))).setCell ⟨q, s * 2 + 1, none⟩ v) := by
 have ne : ∀ {i j : Nat}, (⟨p, i, none⟩ : Addr) ≠ ⟨q, j, none⟩ := fun e => h.ne (congrArg Addr.block e)
 refine ⟨?_, h.list.set hs hv, h.ne, h.small, h.ok.set (by omega) (by omega) ha⟩
 rw [World.cell?_setCell_other _ _ _ _ (Ne.symm ne), World.cell?_setCell_other _ _ _ _ (Ne.symm ne)]
 exact h.ptr
def VAt (nl : Bool) (v : Value) (T : Int -> Ans) (w : World) : Prop :=
 (nl = true /\ v = .pointer none /\ T = fun _ => .none) \/ (nl = false /\ ∃ p q n, v = .pointer (some ⟨p, 0, none⟩) /\ TAt p q n T w)
theorem VAt.went {nl : Bool} {v : Value} {T : Int -> Ans} {w w' : World} (h : VAt nl v T w) (hb : Below w.heap.size w w') : VAt nl v T w' := by
 rcases h with ⟨h1, h2, h3⟩ | ⟨h1, p, q, n, h2, h3⟩
 ·exact .inl ⟨h1, h2, h3⟩
 ·exact .inr ⟨h1, p, q, n, h2, h3.went hb⟩
theorem VAt.bnd {nl : Bool} {v : Value} {T : Int -> Ans} {w : World} (h : VAt nl v T w) : Bnd T := by
 rcases h with ⟨h1, h2, rfl⟩ | ⟨h1, p, q, n, h2, h3⟩
 ·exact fun _ => zLP
 ·exact h3.ok.bnd
theorem zH3 (n : Int) (v : Value) (w : World) : (Instr.field 101 (.agg #[.int .i64 n, v]) 0).run Tryz.prog w = .ok (.int .i64 n) w := by kernel_rfl
theorem zFD (n : Int) (a : Option Addr) (k c : Nat) (w : World) : (Instr.field 101 (.agg #[.int .i64 n, .slice a k c]) 1).run Tryz.prog w = .ok (.slice a k c) w := by kernel_rfl
def zK8 (a : Ans) (w : World) (e : Ending) (w' : World) : Prop :=
 ∃ ad c, e = .returned (.agg #[.int .i64 (lenA a : Int), .slice ad (zAK a).length c]) /\ Sep.Reads ad (ivs (zAK a)) w' /\ Below w.heap.size w w'
theorem zK9 (nl : Bool) (v : Value) (T : Int -> Ans) (s : Int) (w : World) (h : VAt nl v T w) :
  Calls Tryz.prog 77 #[v, .int .i64 s] w (zK8 (T s) w) := by
 rcases h with ⟨_, rfl, rfl⟩ | ⟨_, p, q, n, rfl, h⟩
 ·skip
  go_enter Tryz.func77, Tryz.ntmps77
  go_wp2
  try simp only [Exit.inBlock, Exit.then]
  exact bodyPost_ret (v := .agg #[.int .i64 4098, .slice none 0 0]) (by simp [results, Tryz.results77, go_sem]) rfl ⟨none, 0, rfl, .nil _ _, boxed _ _⟩
 ·have hpl : p < w.heap.size := World.block_lt_of_cell? w _ h.ptr
  have hql := h.list.lt
  by_cases hs : 0 <= s /\ s < (n : Int)
  ·obtain ⟨h0, hn⟩ := hs
   obtain ⟨j, rfl⟩ := Int.eq_ofNat_of_zero_le h0
   have hlt : j < n := by omega
   have hsm := h.small
   obtain ⟨u, hw, ad, c, rfl, hR, _⟩ := h.list.word j hlt
   have hl := h.list.len j hlt
   have hp := h.ptr
   have R := zNR (fun w' (hb : Below w.heap.size w w') => hR.below hb (Nat.le_refl _))
   have d0 : decide ((j : Int) < 0) = false := decide_eq_false (by omega)
   have d1 : decide (n <= j) = false := decide_eq_false (by omega)
   clear h hR h0 hn
   generalize T (j : Int) = a at *
   go_enter Tryz.func77, Tryz.ntmps77
   go_wp2
   try simp only [Exit.inBlock, Exit.then]
   exact bodyPost_ret (v := .agg #[.int .i64 (lenA a), .slice ad (zAK a).length c]) (by simp [results, Tryz.results77, go_sem]) rfl ⟨ad, c, rfl, R.out _ (boxed _ _), boxed _ _⟩
  ·have e := h.ok.out s hs
   rw [e]
   have hp := h.ptr
   have hsm := h.small
   clear h e
   by_cases h0 : s < 0
   ·have d0 : decide (s < 0) = true := decide_eq_true h0
    clear hs
    go_enter Tryz.func77, Tryz.ntmps77
    go_wp2
    try simp only [Exit.inBlock, Exit.then]
    exact bodyPost_ret (v := .agg #[.int .i64 4098, .slice none 0 0]) (by simp [results, Tryz.results77, go_sem]) rfl ⟨none, 0, rfl, .nil _ _, boxed _ _⟩
   ·obtain ⟨j, rfl⟩ := Int.eq_ofNat_of_zero_le (Int.not_lt.1 h0)
    have d0 : decide ((j : Int) < 0) = false := decide_eq_false (by omega)
    have d1 : decide (n <= j) = true := decide_eq_true (by omega)
    clear hs h0
    go_enter Tryz.func77, Tryz.ntmps77
    go_wp2
    try simp only [Exit.inBlock, Exit.then]
    exact bodyPost_ret (v := .agg #[.int .i64 4098, .slice none 0 0]) (by simp [results, Tryz.results77, go_sem]) rfl ⟨none, 0, rfl, .nil _ _, boxed _ _⟩
end Le
namespace Le
open Gr (Gram nonB zBJ checkN zAN)
structure Inv (G : Gram) (T : Int -> Ans) : Prop where
 ok : OkS G 4096 T
 zero : T 0 = .is []
 term : ∀ s, zBJ G s = true -> T s = .is [s]
theorem zJ5 (G : Gram) : Inv G (tab0 G) :=
 ⟨zL2 (by omega), by unfold tab0; rw [if_pos rfl], fun s h => by have := zAN.1 h; unfold tab0; rw [if_neg (by omega), if_pos h]⟩
theorem Inv.set {G : Gram} {T : Int -> Ans} (h : Inv G T) {r : Int × List Int} (hr : r ∈ G.rules) (hn : nonB G r.1 = true) : Inv G (setA T r.1 (J T r.2)) :=
 ⟨h.ok.set hr, (zF1 hn (Or.inl rfl)).trans h.zero, fun s hs => (zF1 hn (Or.inr hs)).trans (h.term s hs)⟩
structure Tried (G : Gram) (n : Nat) (T0 : Int -> Ans) (j : Nat) (T : Int -> Ans) (b : Bool) : Prop where
 inv : Inv G T
 no : b = false -> T = T0 /\ ∀ i (h : i < G.rules.length), i < j -> zAY (J T0 G.rules[i].2) (T0 G.rules[i].1) = false
 yes : b = true -> zCa G 4096 T n < zCa G 4096 T0 n
theorem zHV {G : Gram} {n : Nat} {T : Int -> Ans} (h : Inv G T) : Tried G n T 0 T false := ⟨h, fun _ => ⟨rfl, fun i _ hi => absurd hi (by omega)⟩, fun h => by cases h⟩
theorem Tried.skip {G : Gram} {n : Nat} {T0 T : Int -> Ans} {j : Nat} {b : Bool} (h : Tried G n T0 j T b) (hj : j < G.rules.length) (hb : zAY (J T G.rules[j].2) (T G.rules[j].1) = false) : Tried G n T0 (j + 1) T b := by
 refine ⟨h.inv, fun e => ?_, h.yes⟩
 obtain ⟨e1, e2⟩ := h.no e
 refine ⟨e1, fun i hi hl => ?_⟩
 by_cases he : i = j
 ·subst he
  rw [← e1]
  exact hb
 ·exact e2 i hi (by omega)
theorem Tried.put {G : Gram} {n : Nat} {T0 T : Int -> Ans} {j : Nat} {b : Bool} (h : Tried G n T0 j T b) (hj : j < G.rules.length) (hn : nonB G G.rules[j].1 = true) (h0 : 0 <= G.rules[j].1) (h1 : G.rules[j].1 < (n : Int))
  (hb : zAY (J T G.rules[j].2) (T G.rules[j].1) = true) : Tried G n T0 (j + 1) (setA T G.rules[j].1 (J T G.rules[j].2)) true := by
 have hm := List.getElem_mem hj
 refine ⟨h.inv.set hm hn, (fun e => by cases e), fun _ => ?_⟩
 have hl : zCa G 4096 (setA T G.rules[j].1 (J T G.rules[j].2)) n < zCa G 4096 T n := zKD h.inv.ok hm h0 h1 hb
 cases b with
 | false =>
  have e1 := (h.no rfl).1
  rw [e1] at hl ⊢
  exact hl
 | true => exact Nat.lt_trans hl (h.yes rfl)
structure Passed (G : Gram) (n : Nat) (T0 : Int -> Ans) (T : Int -> Ans) (b : Bool) : Prop where
 inv : Inv G T
 no : b = false -> Cls G 4096 T
 yes : b = true -> zCa G 4096 T n < zCa G 4096 T0 n
theorem Tried.all {G : Gram} {n : Nat} {T0 T : Int -> Ans} {j : Nat} {b : Bool} (h : Tried G n T0 j T b) (hj : ¬ j < G.rules.length) : Passed G n T0 T b := by
 refine ⟨h.inv, fun e => ?_, h.yes⟩
 obtain ⟨e1, e2⟩ := h.no e
 refine ⟨h.inv.zero, h.inv.term, fun r hr => ?_⟩
 obtain ⟨i, hi, rfl⟩ := List.getElem_of_mem hr
 rw [e1]
 exact e2 i hi (by omega)
noncomputable def zEi (G : Gram) : Int -> Ans := @dite _ (∃ T, OkS G 4096 T /\ Cls G 4096 T) (Classical.propDecidable _) (fun h => h.choose) (fun _ _ => .none)
theorem zF4 {G : Gram} {T : Int -> Ans} (ok : OkS G 4096 T) (c : Cls G 4096 T) : T = zEi G := by
 have h : ∃ T, OkS G 4096 T /\ Cls G 4096 T := ⟨T, ok, c⟩
 have e : zEi G = h.choose := by unfold zEi; exact dif_pos h
 rw [e]
 funext s
 exact c.unique ok h.choose_spec.1 h.choose_spec.2 s
noncomputable def ansT (G : Gram) : Int -> Ans := if checkN G = 0 then zEi G else fun _ => .none
noncomputable def nilB (G : Gram) : Bool := !decide (checkN G = 0)
