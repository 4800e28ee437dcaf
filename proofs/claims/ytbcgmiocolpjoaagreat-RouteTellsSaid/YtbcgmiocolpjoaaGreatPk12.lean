/- A part of the proof. -/
import Derived.Deep.AppendLies
import Derived.Deep.RegionLaw
import Derived.Test.YtbcgmiocolpjoaaGreatPk05
import Derived.Lib.SmallJoins
import Derived.Deep.Slices
import Derived.Deep.SlicePairs
import Derived.ChangeSame
import Derived.SliceStrings
import Derived.SizedLaws
import Derived.Carry
set_option maxRecDepth 100000
set_option linter.unusedVariables false
set_option linter.unusedSimpArgs false
namespace Go.Proofs.YtbcgmiocolpjoaaGreat
namespace Rw
open Go.RowKit Go.Maps
theorem zDV {P : Program} (w : World) (t ty : TypeId) (base : Nat) (e : TypeId) (i : TypeInfo) (z : Value) (size bytes : Nat) (ht : P.underlying t = some (.slice e)) (hi : P.info? e = some i) (hz : i.zero = some z)
  (hsize : i.size = size) (hby : i.bytes = bytes) (hzs : z.cells.size = size) (hpos : 0 < size) (v : Value) (n : Nat) (xs : List Value) (hown : w.ownsRow base e size v n xs)
  (base2 : Nat) (v2 : Value) (m : Nat) (ys : List Value) (hown2 : w.ownsRow base2 e size v2 m ys) (h1 : ∀ u ∈ ys, u.oneCell' = true)
  (h63 : n + m <= maxLen) (hbytes : (n + m) * bytes <= 140737488355328) (hbase : base <= w.heap.size) :
  ∃ v' w', (Builtin.append_ #[t, t] ty #[v, v2]).run P w = .ok v' w' /\ w'.ownsRow base e size v' (n + m) (xs ++ ys) /\ w.grownBy w' v.ownBlock /\ (v'.ownBlock = v.ownBlock \/ v'.ownBlock = some w.heap.size) := by
 have hlen := hown2.1
 rcases hown2.2 with ⟨rfl, rfl⟩ | ⟨g2, cap2, cur2, rfl, hbg2, hg2, hnc2, hcm2, hcs2, htake2⟩
 ·have h0 : ys = [] := List.eq_nil_of_length_eq_zero (by simpa using hlen)
  subst h0
  refine ⟨v, w, ?_, by simpa using hown, ⟨rfl, rfl, rfl, Nat.le_refl _, fun _ _ _ => rfl⟩, .inl rfl⟩
  rcases hown.2 with ⟨rfl, rfl⟩ | ⟨g, cap, cur, rfl, hbg, hg, hnc, hcm, hcs, htake⟩
  ·simp [Builtin.append_, run_underlying ht, sizeOf, typeInfo, hi, Builtin.lenOf, Builtin.firstCells]
  ·simp [Builtin.append_, run_underlying ht, sizeOf, typeInfo, hi, Builtin.lenOf, Builtin.firstCells, loadCells, storeCells, hnc]
 ·obtain ⟨v', w', h2, h3, h4, _, h5⟩ := run_append_own_at (P := P) w base t ty e i z size bytes ht hi hz hsize hby hzs hpos v n xs hown ⟨g2, 0, none⟩ m cap2 ys hlen (hown2.cells rfl) h1 h63 hbytes hbase
  exact ⟨v', w', h2, h3, h4, h5⟩
theorem zB5 {P : Program} (w : World) {o : Oper} {a : Act} {K : Act -> World -> Prop} {Q : Exit -> Act -> World -> Prop} (s x : Operand) (t : TypeId)
  (ho : o.op = .call { callee := .builtin .append, args := #[s, x], argTypes := #[t, t] })
  (base : Nat) (e : TypeId) (i : TypeInfo) (z : Value) (size bytes : Nat) (ht : P.underlying t = some (.slice e)) (hi : P.info? e = some i) (hz : i.zero = some z)
  (hsize : i.size = size) (hby : i.bytes = bytes) (hzs : z.cells.size = size) (hpos : 0 < size) (v : Value) (n : Nat) (xs : List Value) (hs : a.eval s = v) (hown : w.ownsRow base e size v n xs)
  (base2 : Nat) (v2 : Value) (m : Nat) (ys : List Value) (hx : a.eval x = v2) (hown2 : w.ownsRow base2 e size v2 m ys) (h1 : ∀ u ∈ ys, u.oneCell' = true)
  (h63 : n + m <= maxLen) (hbytes : (n + m) * bytes <= 140737488355328) (hbase : base <= w.heap.size)
  (h : ∀ v' w', w'.ownsRow base e size v' (n + m) (xs ++ ys) -> w.grownBy w' v.ownBlock -> (v'.ownBlock = v.ownBlock \/ v'.ownBlock = some w.heap.size) -> K (a.put o.dst v') w') : o.wp P a w K Q := by
 obtain ⟨v', w', hr, h2, h3, h4⟩ := zDV (P := P) w t o.type base e i z size bytes ht hi hz hsize hby hzs hpos v n xs hown base2 v2 m ys hown2 h1 h63 hbytes hbase
 unfold Oper.wp execOp
 simp only [ho, resolve, invoke, builtin, Sem.run_bind, Sem.run_pure, Result.andThen_ok, List.map_toArray, List.map_cons, List.map_nil, hs, hx, hr]
 exact h v' w' h2 h3 h4
theorem zAF {P : Program} (w : World) {ops : Array Oper} {rest : List Oper} {o : Oper} {a : Act} {Q : Exit -> Act -> World -> Prop} (hgd : o.guard = none) (s x : Operand) (t : TypeId)
  (ho : o.op = .call { callee := .builtin .append, args := #[s, x], argTypes := #[t, t] })
  (base : Nat) (e : TypeId) (i : TypeInfo) (z : Value) (size bytes : Nat) (ht : P.underlying t = some (.slice e)) (hi : P.info? e = some i) (hz : i.zero = some z)
  (hsize : i.size = size) (hby : i.bytes = bytes) (hzs : z.cells.size = size) (hpos : 0 < size) (v : Value) (n : Nat) (xs : List Value) (hs : a.eval s = v) (hown : w.ownsRow base e size v n xs)
  (base2 : Nat) (v2 : Value) (m : Nat) (ys : List Value) (hx : a.eval x = v2) (hown2 : w.ownsRow base2 e size v2 m ys) (h1 : ∀ u ∈ ys, u.oneCell' = true)
  (h63 : n + m <= maxLen) (hbytes : (n + m) * bytes <= 140737488355328) (hbase : base <= w.heap.size)
  (h : ∀ v' w', w'.ownsRow base e size v' (n + m) (xs ++ ys) -> w.grownBy w' v.ownBlock -> (v'.ownBlock = v.ownBlock \/ v'.ownBlock = some w.heap.size) -> wpList P ops Q rest (a.put o.dst v') w') : wpList P ops Q (o :: rest) a w :=
 wpList_plain hgd fun _ hK => zB5 w s x t ho base e i z size bytes ht hi hz hsize hby hzs hpos v n xs hs hown base2 v2 m ys hx hown2 h1 h63 hbytes hbase fun v' w' h2 h3 h4 => hK _ _ (h v' w' h2 h3 h4)
theorem zAX {P : Program} (w : World) {ops : Array Oper} {o : Oper} {a : Act} {K : Act -> World -> Prop} {Q : Exit -> Act -> World -> Prop} {E : Prop} (hgd : o.guard = none) (s x : Operand) (t : TypeId)
  (ho : o.op = .call { callee := .builtin .append, args := #[s, x], argTypes := #[t, t] })
  (base : Nat) (e : TypeId) (i : TypeInfo) (z : Value) (size bytes : Nat) (ht : P.underlying t = some (.slice e)) (hi : P.info? e = some i) (hz : i.zero = some z)
  (hsize : i.size = size) (hby : i.bytes = bytes) (hzs : z.cells.size = size) (hpos : 0 < size) (v : Value) (n : Nat) (xs : List Value) (hs : a.eval s = v) (hown : w.ownsRow base e size v n xs)
  (base2 : Nat) (v2 : Value) (m : Nat) (ys : List Value) (hx : a.eval x = v2) (hown2 : w.ownsRow base2 e size v2 m ys) (h1 : ∀ u ∈ ys, u.oneCell' = true)
  (h63 : n + m <= maxLen) (hbytes : (n + m) * bytes <= 140737488355328) (hbase : base <= w.heap.size)
  (h : ∀ v' w', w'.ownsRow base e size v' (n + m) (xs ++ ys) -> w.grownBy w' v.ownBlock -> (v'.ownBlock = v.ownBlock \/ v'.ownBlock = some w.heap.size) -> K (a.put o.dst v') w') :
  if Region.wanted o (yielded ops a.tmps) = true then Oper.wp P o a w K Q else E := by
 have hw : Region.wanted o (yielded ops a.tmps) = true := by simp [Region.wanted, hgd]
 rw [if_pos hw]
 exact zB5 w s x t ho base e i z size bytes ht hi hz hsize hby hzs hpos v n xs hs hown base2 v2 m ys hx hown2 h1 h63 hbytes hbase h
theorem zAK {w : World} {base size n : Nat} {e : TypeId} {v : Value} {xs : List Value} (h : w.ownsRow base e size v n xs) : ∃ a cap, v = .slice a n cap := by
 rcases h.2 with ⟨rfl, rfl⟩ | ⟨g, cap, cur, rfl, _⟩
 ·exact ⟨_, _, rfl⟩
 ·exact ⟨_, _, rfl⟩
theorem zL3 {w : World} {b b' size n : Nat} {e : TypeId} {v : Value} {xs : List Value} (h : w.ownsRow b e size v n xs) (hb : b' <= b) : w.ownsRow b' e size v n xs := by
 obtain ⟨h1, h2⟩ := h
 refine ⟨h1, h2.imp id ?_⟩
 rintro ⟨g, cap, cur, h3, h4, h5⟩
 exact ⟨g, cap, cur, h3, Nat.le_trans hb h4, h5⟩
def Bk (q : Nat) (cs : Array Value) (T : TypeId) (w : World) : Prop := w.heap[q]? = some (.cells cs T)
theorem Bk.new (w : World) (cs : Array Value) (T : TypeId) (n : Nat) (hn : n = w.heap.size) : Bk n cs T (w.alloc (.cells cs T)) := by
 subst hn
 exact heap_alloc_new w _
theorem Bk.lt {q : Nat} {cs : Array Value} {T : TypeId} {w : World} (h : Bk q cs T w) : q < w.heap.size := by
 rcases Nat.lt_or_ge q w.heap.size with h1 | h1
 ·exact h1
 ·unfold Bk at h
  rw [Array.getElem?_eq_none h1] at h
  cases h
theorem Bk.fr {q : Nat} {cs : Array Value} {T : TypeId} {S : Nat -> Prop} {w w' : World} (h : Bk q cs T w) (k : Sep.Fr S w w') (hq : ¬ S q) : Bk q cs T w' := (k.block q h.lt hq).trans h
theorem Bk.went {q : Nat} {cs : Array Value} {T : TypeId} {w w' : World} (h : Bk q cs T w) (k : Below w.heap.size w w') : Bk q cs T w' := (k.block q h.lt).trans h
theorem Bk.cell {q : Nat} {cs : Array Value} {T : TypeId} {w : World} (h : Bk q cs T w) {j : Nat} {v : Value} (hv : cs[j]? = some v) : w.cell? ⟨q, j, none⟩ = some v := by
 unfold Bk at h
 simp [World.cell?, h, hv]
theorem Bk.free {q : Nat} {cs : Array Value} {T : TypeId} {w : World} (h : Bk q cs T w) (j : Nat) : w.frozen? ⟨q, j, none⟩ = false := by
 unfold Bk at h
 simp [World.frozen?, h]
theorem Bk.three {q : Nat} {a b c : Value} {T : TypeId} {w : World} (h : Bk q #[a, b, c] T w) : w.cell? ⟨q, 0, none⟩ = some a /\ w.cell? ⟨q, 1, none⟩ = some b /\ w.cell? ⟨q, 2, none⟩ = some c /\ (∀ j, w.frozen? ⟨q, j, none⟩ = false) :=
 ⟨h.cell rfl, h.cell rfl, h.cell rfl, h.free⟩
theorem zAf (w : World) (a : Addr) (v : Value) : (w.setCell a v).heap.size = w.heap.size := by simp [World.setCell]
theorem Bk.grown {q : Nat} {cs : Array Value} {T : TypeId} {w w' : World} {row : Option Nat} (h : Bk q cs T w) (hg : w.grownBy w' row) (hr : ∀ k, row = some k -> k ≠ q) : Bk q cs T w' :=
 (hg.block q h.lt (fun e => hr q e.symm rfl)).trans h
theorem Bk.set {q j : Nat} {cs : Array Value} {T : TypeId} {w : World} (h : Bk q cs T w) (hj : j < cs.size) (v : Value) : Bk q (cs.setIfInBounds j v) T (w.setCell ⟨q, j, none⟩ v) := by
 unfold Bk at h ⊢
 obtain ⟨hl, h⟩ := Array.getElem?_eq_some_iff.1 h
 rw [Array.getElem?_eq_some_iff]
 refine ⟨by rw [zAf]; exact hl, ?_⟩
 simp [World.setCell, Array.getElem_modify, h]
theorem Bk.two {q : Nat} {a b : Value} {T : TypeId} {w : World} (h : Bk q #[a, b] T w) : w.cell? ⟨q, 0, none⟩ = some a /\ w.cell? ⟨q, 1, none⟩ = some b /\ (∀ j, w.frozen? ⟨q, j, none⟩ = false) := ⟨h.cell rfl, h.cell rfl, h.free⟩
theorem zI5 {S : Nat -> Prop} {w w1 w2 : World} (h : Sep.Fr S w w1) (k : Below w1.heap.size w1 w2) : Sep.Fr S w w2 := h.trans (Sep.Fr.of_below (S := S) k) fun _ hk => .inl hk
def zDf (base : Nat) (X : List Int) (v : Value) (w : World) : Prop := w.ownsRow base 3 1 v X.length (Gr.ivs X)
theorem zDf.went {base : Nat} {X : List Int} {v : Value} {w w' : World} (h : zDf base X v w) (hb : Below w.heap.size w w') : zDf base X v w' := Sep.zAH h fun g hg => hb.block g (h.lt g hg).2
theorem zET {α : Type} (f : α -> List Value) (hf : ∀ x, (f x).length = 2) (L : List α) (j : Nat) (hj : j < L.length) (i : Nat) (hi : i < 2) : (L.flatMap f)[j * 2 + i]? = (f L[j])[i]? := by
 induction L generalizing j with
 | nil => simp at hj
 | cons t T ih =>
  rw [List.flatMap_cons]
  cases j with
  | zero => rw [List.getElem?_append_left (by rw [hf]; omega)]; simp
  | succ j =>
   rw [List.getElem?_append_right (by rw [hf]; omega), hf, show (j + 1) * 2 + i - 2 = j * 2 + i by omega, ih j (by simpa using hj)]
   simp
end Rw
namespace Gr
open Go.RowKit Go.Maps Go.ChangeShapes Go.WideShapes Go.Deep Go.Joins
theorem zDq {H : Type} {P : Program} {e : TypeId} {l : List (DataW H)} {d : DataW H} (h : d ∈ l) : ∀ n ∈ d.weights P e, n ∈ DataW.weightsAll P e l := by
 induction l with
 | nil => cases h
 | cons a r ih =>
  intro n hn
  simp only [DataW.weightsAll, List.mem_append]
  rcases List.mem_cons.1 h with rfl | h
  ·exact .inl hn
  ·exact .inr (ih h n hn)
def Within {H : Type} (P : Program) (t : TypeId) (d : DataW H) : Prop := ∀ n ∈ d.weights P t, n <= 140737488355328
theorem zFw {H : Type} {P : Program} {ts : List TypeId} {ds : List (DataW H)} (h : (DataW.weightsEach P ts ds).all (· <= reachBytes) = true) {j : Nat} {t : TypeId} {d : DataW H} (ht : ts[j]? = some t) (hd : ds[j]? = some d) : Within P t d := fun n hn => by
 have := List.all_eq_true.1 h n (DataW.weights_mem_each ht hd n hn)
 have h2 := reachBytes_lt
 simp at this
 omega
theorem zBQ {H : Type} {P : Program} {t : TypeId} {fs : Array Field} {parts : List (DataW H)} (h : Within P t (.agg parts)) (hs : P.underlying t = some (.struct fs)) {j : Nat} {t' : TypeId} {d : DataW H} (ht : (fs.toList.map (·.type))[j]? = some t') (hd : parts[j]? = some d) : Within P t' d := fun n hn => by
 refine h n ?_
 simp only [DataW.weights, hs]
 exact DataW.weights_mem_each ht hd n hn
theorem zDb {H : Type} {P : Program} {t e : TypeId} {elems spare : List (DataW H)} (h : Within P t (.slice elems spare)) (hs : P.underlying t = some (.slice e)) {d : DataW H} (hd : d ∈ elems) : Within P e d := fun n hn => by
 refine h n ?_
 simp only [DataW.weights, hs, List.mem_cons, List.mem_append]
 exact .inr (.inl (zDq hd n hn))
theorem zCp {H : Type} {P : Program} {t e : TypeId} {elems spare : List (DataW H)} (h : Within P t (.slice elems spare)) (hs : P.underlying t = some (.slice e)) : (elems.length + spare.length) * P.bytesOf e <= 140737488355328 := by
 refine h _ ?_
 simp [DataW.weights, hs]
theorem zF8 {n : Int} (h : (Lit.int .i64 n).wf = true) : Fits n := by
 simp only [Lit.wf, Bool.and_eq_true, decide_eq_true_eq] at h
 exact ⟨h.1, h.2⟩
theorem zFH : Tryz.prog.cellsOf 9 = 1 := by kernel_rfl
theorem zIn : Tryz.prog.cellsOf 3 = 1 := by kernel_rfl
theorem zFG : Tryz.prog.bytesOf 9 = 16 := by kernel_rfl
theorem zIm : Tryz.prog.bytesOf 3 = 8 := by kernel_rfl
theorem zHj : Tryz.prog.bytesOf 59 = 32 := by kernel_rfl
section
variable {H : Type} {enc : TypeId × Value -> H} {w : World}
theorem zKY {fuel : Nat} {v : Value} {x : DataW H × List MemPlace} (h : DataW.trod enc Tryz.prog w 0 (fun _ => true) true fuel 22 [v] = some x) (hz : Within Tryz.prog 22 x.1) :
  ∃ a c, ∃ L : List ByteArray, v = .slice a L.length c /\ Sep.Reads a (L.map .string) w /\ L.length <= c /\ c <= 8796093022208 /\ ∀ s ∈ L, s.size <= 140737488355328 := by
 rcases open_strings Tryz.underlying22 Tryz.underlying9 zFH h with ⟨hcs, _⟩ | ⟨a, len, cap, ss, hcs, _, hl, hm, hzz, rfl, hcell, hws⟩
 ·simp at hcs
  subst hcs
  exact ⟨none, 0, [], rfl, .nil _ _, Nat.le_refl _, by omega, fun s hs => by cases hs⟩
 ·simp at hcs
  subst hcs
  simp only [if_true] at hzz
  have hcap := zCp hz Tryz.underlying22
  rw [zFG] at hcap
  simp [strs] at hcap
  refine ⟨some a, cap, ss.take len, by simp; omega, fun i hi => ?_, by simp; omega, by omega, fun s hs => ?_⟩
  ·simp only [List.length_map, List.length_take] at hi
   obtain ⟨bb, off, spot⟩ := a
   have hspot : spot = none := by simpa [Addr.add] using World.cell?_spot (hcell 0 (by omega))
   subst hspot
   refine ⟨bb, off, rfl, ?_⟩
   have hc := hcell i (by omega)
   rw [WideShapes.add_plain] at hc
   rw [hc]
   simp [List.getD_eq_getElem?_getD, List.getElem?_eq_getElem (show i < ss.length by omega)]
  ·have := zDb hz Tryz.underlying22 (d := .lit (.string s.data.toList)) (by simp only [strs, List.mem_map]; exact ⟨s, hs, rfl⟩)
   have := this s.data.toList.length (by simp [DataW.weights])
   exact this
theorem zM9 {fuel : Nat} {v : Value} {x : DataW H × List MemPlace} (h : DataW.trod enc Tryz.prog w 0 (fun _ => true) true fuel 40 [v] = some x) (hz : Within Tryz.prog 40 x.1) :
  ∃ a c, ∃ L : List Int, v = .slice a L.length c /\ Sep.Reads a (L.map (.int .i64)) w /\ L.length <= c /\ c <= 17592186044416 /\ ∀ n ∈ L, Fits n := by
 rcases open_ints Tryz.underlying40 Tryz.underlying3 zIn h with ⟨hcs, _⟩ | ⟨a, len, cap, ss, hcs, _, hl, hm, hzz, rfl, hcell, hws⟩
 ·simp at hcs
  subst hcs
  exact ⟨none, 0, [], rfl, .nil _ _, Nat.le_refl _, by omega, fun s hs => by cases hs⟩
 ·simp at hcs
  subst hcs
  simp only [if_true] at hzz
  have hcap := zCp hz Tryz.underlying40
  rw [zIm] at hcap
  simp [lits] at hcap
  refine ⟨some a, cap, ss.take len, by simp; omega, fun i hi => ?_, by simp; omega, by omega, fun n hn => zF8 (hws n (List.mem_of_mem_take hn))⟩
  simp only [List.length_map, List.length_take] at hi
  obtain ⟨bb, off, spot⟩ := a
  have hspot : spot = none := by simpa [Addr.add] using World.cell?_spot (hcell 0 (by omega))
  subst hspot
  refine ⟨bb, off, rfl, ?_⟩
  have hc := hcell i (by omega)
  rw [WideShapes.add_plain] at hc
  rw [hc]
  simp [List.getD_eq_getElem?_getD, List.getElem?_eq_getElem (show i < ss.length by omega)]
def zOB (a : Option Addr) (i : Nat) (r : Int × List Int) (w : World) : Prop :=
 (∃ b o ra rc, a = some ⟨b, o, none⟩ /\ w.cell? ⟨b, o + i * 2, none⟩ = some (.int .i64 r.1) /\ w.cell? ⟨b, o + i * 2 + 1, none⟩ = some (.slice ra r.2.length rc) /\ Sep.Reads ra (r.2.map (.int .i64)) w /\ r.2.length <= rc /\ r.2.length <= 17592186044416) /\
 Fits r.1 /\ ∀ x ∈ r.2, Fits x
theorem zL6 {fuel : Nat} {v : Value} {x : DataW H × List MemPlace} (h : DataW.trod enc Tryz.prog w 0 (fun _ => true) true fuel 23 [v] = some x) (hz : Within Tryz.prog 23 x.1) :
  ∃ a c, ∃ R : List (Int × List Int), v = .slice a R.length c /\ zAu a R w /\ R.length <= c /\ c <= 4398046511104 /\ (∀ r ∈ R, Fits r.1) /\ ∀ r ∈ R, ∀ x ∈ r.2, Fits x := by
 rcases open_slice_pairs Tryz.underlying23 Tryz.underlying59 (by kernel_rfl) rfl rfl (by kernel_rfl) (by kernel_rfl) h with ⟨hcs, _⟩ | ⟨a, len, cap, m, n, V0, V1, D0, D1, P0, P1, hcs, _, hl, hm, hmm, rfl, hi⟩
 ·simp at hcs
  subst hcs
  exact ⟨none, 0, [], rfl, fun i hi => absurd hi (by simp), Nat.le_refl _, by omega, (fun r hr => by cases hr), (fun r hr => by cases hr)⟩
 ·simp at hcs
  subst hcs
  simp only [if_true] at hmm
  subst hmm
  have hcap := zCp hz Tryz.underlying23
  rw [zHj] at hcap
  simp at hcap
  have each : ∀ i, i < len -> ∃ r : Int × List Int, zOB (some a) i r w := fun i him => by
   obtain ⟨hc0, hc1, ht0, ht1⟩ := hi i (by omega)
   obtain ⟨k, hk, _, hw⟩ := DataW.trod_int Tryz.underlying3 ht0
   simp at hk
   have hzi := zDb hz Tryz.underlying23 (d := .agg [D0 i, D1 i]) (by simp only [List.mem_map]; exact ⟨i, List.mem_range.2 him, rfl⟩)
   have hz1 := zBQ hzi Tryz.underlying59 (j := 1) (t' := 40) (d := D1 i) rfl rfl
   obtain ⟨ra, rc, L, hv1, hR, hL, hC, hF⟩ := zM9 ht1 hz1
   rw [hk] at hc0
   rw [hv1] at hc1
   obtain ⟨bb, off, spot⟩ := a
   have hspot : spot = none := by simpa [Addr.add] using World.cell?_spot (hi 0 (by omega)).1
   subst hspot
   rw [WideShapes.add_plain] at hc0 hc1
   exact ⟨(k, L), ⟨bb, off, ra, rc, rfl, hc0, hc1, hR, hL, Nat.le_trans hL hC⟩, zF8 hw, hF⟩
  obtain ⟨f, hf⟩ := choose_lt each
  refine ⟨some a, m, (List.range len).map f, by simp, fun i hi => ?_, by simpa using hl, by omega, fun r hr => ?_, fun r hr => ?_⟩
  ·simp only [List.length_map, List.length_range] at hi
   obtain ⟨b, o, ra, rc, e, h1, h2, h3, h4⟩ := (hf i hi).1
   refine ⟨b, o, ra, rc, e, ?_⟩
   simp only [List.getElem_map, List.getElem_range]
   exact ⟨h1, h2, h3, h4⟩
  ·obtain ⟨i, hi, rfl⟩ := List.mem_map.1 hr
   exact (hf i (List.mem_range.1 hi)).2.1
  ·obtain ⟨i, hi, rfl⟩ := List.mem_map.1 hr
   exact (hf i (List.mem_range.1 hi)).2.2
theorem zI8 {r : Reach} {b0 : Nat} {v : Value} {d : DataW H} {p : List MemPlace} (hv : Value.okWide Tryz.prog w r b0 25 v) (h : DataW.Trod enc Tryz.prog w 0 (fun _ => true) true 25 v d p) (hz : Within Tryz.prog 25 d) :
  ∃ h G, v = gv h G /\ GAt h G w := by
 obtain ⟨v0, v1, v2, v3, y0, y1, y2, y3, n, rfl, rfl, _, h0, h1, h2, h3⟩ := open_agg4 Tryz.underlying25 (by kernel_rfl) (by kernel_rfl) hv h
 obtain ⟨a1, c1, L1, rfl, r1, l1, m1, s1⟩ := zKY h0 (zBQ hz Tryz.underlying25 (j := 0) (t' := 22) rfl rfl)
 obtain ⟨a2, c2, L2, rfl, r2, l2, m2, s2⟩ := zKY h1 (zBQ hz Tryz.underlying25 (j := 1) (t' := 22) rfl rfl)
 obtain ⟨a3, c3, R, rfl, r3, l3, m3, s3, s4⟩ := zL6 h2 (zBQ hz Tryz.underlying25 (j := 2) (t' := 23) rfl rfl)
 obtain ⟨k, hk, _, hw⟩ := DataW.trod_int Tryz.underlying3 h3
 simp at hk
 subst hk
 exact ⟨⟨a1, c1, a2, c2, a3, c3⟩, ⟨L1, L2, R, k⟩, rfl, ⟨r1, r2, r3, l1, Nat.le_trans l1 m1, Nat.le_trans l2 m2, l3, Nat.le_trans l3 m3, ⟨s1, s2, zF8 hw, s3, s4⟩⟩⟩
end
