/- A part of the proof. -/
import Derived.Test.YtnfbjlainpenaaaGreatPk31
import Derived.RangeFuncBox
set_option maxHeartbeats 2000000
set_option maxRecDepth 100000
set_option linter.unusedVariables false
namespace Go.Proofs.YtnfbjlainpenaaaGreat
namespace Au
open Go.RowKit Go.Maps Go.WideShapes Go.ChangeShapes Go.Joins Go.Deep
open Gr (cell_later)
open Im
abbrev Sta := List Itm × List (Int × Int)
def zE6 (a : Option Addr) (i : Nat) (s : Sta) (w : World) : Prop :=
 ∃ b o a1 c1 a2 c2, a = some ⟨b, o, none⟩ /\ w.cell? ⟨b, o + i * 2, none⟩ = some (.slice a1 s.1.length c1) /\ w.cell? ⟨b, o + i * 2 + 1, none⟩ = some (.slice a2 s.2.length c2) /\ ItsA a1 s.1 w /\ ItsA a2 s.2 w /\ s.1.length <= c1 /\ s.2.length <= c2
def StaA (a : Option Addr) (X : List Sta) (w : World) : Prop := ∀ i (h : i < X.length), zE6 a i X[i] w
theorem zE6.went {a : Option Addr} {i : Nat} {s : Sta} {w w' : World} (h : zE6 a i s w) (hb : Below w.heap.size w w') : zE6 a i s w' := by
 obtain ⟨b, o, a1, c1, a2, c2, e, h1, h2, h3, h4, h5, h6⟩ := h
 exact ⟨b, o, a1, c1, a2, c2, e, cell_later hb h1, cell_later hb h2, h3.went hb, h4.went hb, h5, h6⟩
theorem StaA.went {a : Option Addr} {X : List Sta} {w w' : World} (h : StaA a X w) (hb : Below w.heap.size w w') : StaA a X w' := fun i hi => (h i hi).went hb
theorem StaA.nil (a : Option Addr) (w : World) : StaA a [] w := fun i hi => absurd hi (Nat.not_lt_zero i)
end Au
namespace Au
open Go.RowKit Go.Maps
open Im
structure Small (X : List Sta) : Prop where
 len : X.length <= 1000000
 items : ∀ s ∈ X, s.1.length <= 1000000
 trans : ∀ s ∈ X, s.2.length <= 1000000
def inB (X : List Sta) (i : Int) : Bool := decide (0 <= i /\ i < (X.length : Int))
def zJV (X : List Sta) (i : Nat) : List (Int × Int) := (X.getD i ([], [])).2
def zCZ (X : List Sta) (i s : Int) : Int := if inB X i then leads (zJV X i.toNat) s else -1
theorem zFI {X : List Sta} {i : Nat} (h : i < X.length) : inB X (i : Int) = true := decide_eq_true ⟨by omega, by omega⟩
theorem zFH {X : List Sta} {i : Int} : inB X i = true ↔ 0 <= i /\ i < (X.length : Int) := decide_eq_true_iff
theorem zDz {X : List Sta} {i : Nat} (h : i < X.length) (s : Int) : zCZ X (i : Int) s = leads X[i].2 s := by
 unfold zCZ zJV
 rw [zFI h, if_pos rfl, Int.toNat_natCast, List.getD_eq_getElem?_getD, List.getElem?_eq_getElem h]
 rfl
theorem zBz {X : List Sta} {i : Int} (h : inB X i = false) (s : Int) : zCZ X i s = -1 := by
 unfold zCZ
 rw [h, if_neg Bool.false_ne_true]
def zGf (tr : List (Int × Int)) (s : Int) (k : Nat) : Prop := ∀ j (h : j < tr.length), j < k -> tr[j].1 ≠ s
theorem zHA (tr : List (Int × Int)) (s : Int) : zGf tr s 0 := fun _ _ h => absurd h (by omega)
theorem zG9 {tr : List (Int × Int)} {s : Int} {k : Nat} (h : zGf tr s k) (hk : k < tr.length) (e : tr[k].1 ≠ s) : zGf tr s (k + 1) := fun j hj hl => by
 by_cases he : j = k
 ·subst he
  exact e
 ·exact h j hj (by omega)
theorem zEh {tr : List (Int × Int)} {s : Int} {k : Nat} (h : zGf tr s k) (hk : k < tr.length) (e : tr[k].1 = s) : leads tr s = tr[k].2 := by
 unfold leads
 have : tr.find? (fun x => decide (x.1 = s)) = some tr[k] := by
  rw [List.find?_eq_some_iff_getElem]
  exact ⟨decide_eq_true e, k, hk, rfl, fun j hj => by
   have := h j (by omega) hj
   simpa using this⟩
 rw [this]
 rfl
theorem zIW {tr : List (Int × Int)} {s : Int} {k : Nat} (h : zGf tr s k) (hk : ¬ k < tr.length) : leads tr s = -1 := by
 unfold leads
 have : tr.find? (fun x => decide (x.1 = s)) = none := by
  rw [List.find?_eq_none]
  intro x hx
  obtain ⟨j, hj, rfl⟩ := List.mem_iff_getElem.1 hx
  have := h j hj (by omega)
  simpa using this
 rw [this]
 rfl
def zA6 (X : List Sta) (i : Int) : List Int -> Int
 | [] => if inB X i then i else -1
 | s :: way => if inB X i then zA6 X (zCZ X i s) way else -1
theorem zFJ (X : List Sta) : inB X (-1) = false := decide_eq_false (fun h => by omega)
theorem zA7 {X : List Sta} {i : Int} (h : inB X i = false) (way : List Int) : zA6 X i way = -1 := by
 cases way with
 | nil => simp [zA6, h]
 | cons s way => simp [zA6, h]
theorem zCF {X : List Sta} {i : Int} (h : inB X i = true) : zA6 X i [] = i := by simp [zA6, h]
theorem zAy (X : List Sta) (i s : Int) (way : List Int) : zA6 X i (s :: way) = zA6 X (zCZ X i s) way := by
 cases h : inB X i with
 | true => simp [zA6, h]
 | false => rw [zA7 h, zBz h, zA7 (zFJ X)]
theorem zHX {X : List Sta} {L : List Int} {j : Nat} (h : j < L.length) (v : Int) : zA6 X v (L.drop j) = zA6 X (zCZ X v L[j]) (L.drop (j + 1)) := by
 rw [List.drop_eq_getElem_cons h, zAy]
theorem zJZ {X : List Sta} {ts : List (List (Int × Int))} (e : ∀ i (h : i < X.length), X[i].2 = ts.getD i []) : ∀ (way : List Int) (i : Int), zCb X.length ts i way = zA6 X i way
 | [], i => by
  unfold zCb zA6 inB
  by_cases hi : 0 <= i /\ i < (X.length : Int)
  ·rw [if_pos hi, decide_eq_true hi, if_pos rfl]
  ·rw [if_neg hi, decide_eq_false hi, if_neg Bool.false_ne_true]
 | s :: way, i => by
  have hw : zCb X.length ts i (s :: way) = if 0 <= i /\ i < (X.length : Int) then zCb X.length ts (zIA X.length ts i s) way else -1 := rfl
  rw [hw, zAy]
  by_cases hi : 0 <= i /\ i < (X.length : Int)
  ·rw [if_pos hi, zJZ e way]
   obtain ⟨n, rfl⟩ := Int.eq_ofNat_of_zero_le hi.1
   have hn : n < X.length := by omega
   congr 1
   rw [zDz hn, e n hn]
   unfold zIA
   rw [if_pos hi, Int.toNat_natCast]
  ·rw [if_neg hi, zBz (decide_eq_false hi), zA7 (zFJ X)]
end Au
namespace Im
open Go.RowKit Go.Maps
theorem zF9 (x y : Itm) : ltOf cmpI x y = decide (ltP x y) := by
 unfold ltOf cmpI orI Lib.compareInt ltP
 by_cases h1 : x.1 < y.1
 ·simp [h1]
 ·by_cases h2 : y.1 < x.1
  ·have h3 : ¬ x.1 = y.1 := by omega
   simp [h1, h2, h3]
  ·have h3 : x.1 = y.1 := by omega
   by_cases h4 : x.2 < y.2
   ·simp [h3, h4]
   ·by_cases h5 : y.2 < x.2 <;> simp [h3, h4, h5]
theorem zMP : Go.Sort.SWO (ltOf cmpI) where
 irrefl x := by
  rw [zF9, decide_eq_false_iff_not]
  exact fun h => h.ne rfl
 trans x y z h1 h2 := by
  rw [zF9, decide_eq_true_iff] at *
  exact h1.trans h2
 ntrans x y z h1 h2 := by
  rw [zF9, decide_eq_false_iff_not] at *
  unfold ltP at *
  omega
theorem zGT : ∀ {l : List Itm}, l.Nodup -> l.Pairwise (fun a b => ¬ ltP b a) -> Srt l
 | [], _, _ => zJK
 | x :: l, h, k => by
  have h' := List.nodup_cons.1 h
  have k' := List.pairwise_cons.1 k
  refine List.pairwise_cons.2 ⟨fun y hy => ?_, zGT h'.2 k'.2⟩
  exact zIb (k'.1 y hy) fun e => h'.1 (e ▸ hy)
theorem zH4 (d : Array Itm) : Go.Sort.flatK ic 2 d = (d.toList.flatMap ic).toArray := by
 have hl := zAL d.toList
 apply Array.ext_getElem?
 intro t
 by_cases ht : t < d.size * 2
 ·have hi : t / 2 < d.toList.length := by rw [Array.length_toList]; omega
  have h := Rw.zDm ic zA2 d.toList (t / 2) hi (t % 2) (Nat.mod_lt _ (by omega))
  rw [show t / 2 * 2 + t % 2 = t by omega] at h
  conv => rhs; rw [List.getElem?_toArray, h]
  unfold Go.Sort.flatK
  rw [Array.getElem?_map, Array.getElem?_range, if_pos ht]
  have hi' : t / 2 < d.size := by omega
  rw [Option.map_some, getElem!_pos d (t / 2) hi', Array.getElem_toList]
  rcases Nat.mod_two_eq_zero_or_one t with e | e <;> rw [e] <;> simp [ic]
 ·conv => rhs; rw [List.getElem?_toArray]
  rw [Array.getElem?_eq_none (by simp; omega), List.getElem?_eq_none (by rw [hl, Array.length_toList]; omega)]
theorem zJ4 {T base : Nat} {X : List Itm} {g cap : Nat} {w : World} (h : ItsV T base X (.slice (some ⟨g, 0, none⟩) X.length cap) w) : Go.Sort.HoldsK ic 2 w g 0 X.toArray /\ g < w.heap.size := by
 rcases h.2 with ⟨e, _⟩ | ⟨g', cap', cur, e, _, hb, _, _, h3, h4⟩
 ·cases e
 ·simp only [Value.slice.injEq, Option.some.injEq, Addr.mk.injEq, and_true, true_and] at e
  obtain ⟨rfl, rfl⟩ := e
  refine ⟨?_, (Array.getElem?_eq_some_iff.1 hb).1⟩
  unfold Go.Sort.HoldsK
  rw [zH4]
  intro j hj
  have hl := zAL X
  simp only [List.size_toArray] at hj
  refine ⟨?_, by simp [World.frozen?, hb]⟩
  have h1 : (cur.toList.take (X.length * 2))[j]? = (X.flatMap ic)[j]? := by rw [h4]
  rw [List.getElem?_take_of_lt (by omega)] at h1
  simp only [World.cell?, hb, Nat.zero_add]
  simp only [Option.isSome_none, Bool.false_eq_true, if_false]
  rw [← Array.getElem?_toList, h1]
  simp only [List.getElem!_toArray, id]
  rw [List.getElem?_eq_getElem hj, getElem!_pos _ j hj]
theorem zJ3 {w : World} {g n : Nat} {os : Array Obj} {cur : Array Value} {e : TypeId} {fr : Nat × Nat} (F : Array Value) (hb : w.heap[g]? = some (.cells cur e fr)) :
  (Go.Sort.grow (Go.Sort.putRow id (Go.Sort.ahead w n) g 0 F) os).heap[g]? = some (.cells (Go.Sort.putCells id 0 F cur) e fr) := by
 have hg : g < w.heap.size := (Array.getElem?_eq_some_iff.1 hb).1
 rw [Go.Sort.heap_grow_old _ _ (by simpa using hg)]
 simp [Go.Sort.putRow, Go.Sort.mapBlock, Go.Sort.ahead, Array.getElem?_modify, hb, Go.Sort.onCells]
theorem zIB {w : World} {g n : Nat} {os : Array Obj} (F : Array Value) : w.grownBy (Go.Sort.grow (Go.Sort.putRow id (Go.Sort.ahead w n) g 0 F) os) (some g) := by
 refine ⟨rfl, rfl, rfl, by simp, fun k hk hne => ?_⟩
 rw [Go.Sort.heap_grow_old _ _ (by simpa using hk)]
 have : g ≠ k := fun e => hne (by rw [e])
 simp [Go.Sort.putRow, Go.Sort.mapBlock, Go.Sort.ahead, Array.getElem?_modify, this]
theorem zHU (cur : Array Value) (L : List Value) (h : L.length <= cur.size) : (Go.Sort.putCells id 0 L.toArray cur).toList.take L.length = L := by
 apply List.ext_getElem?
 intro j
 by_cases hj : j < L.length
 ·rw [List.getElem?_take_of_lt hj, Array.getElem?_toList]
  simp [Go.Sort.putCells, hj, show j < cur.size by omega]
 ·rw [List.getElem?_take_eq_none (by omega), List.getElem?_eq_none (by omega)]
theorem zLm {T base : Nat} {X Y : List Itm} {g cap n : Nat} {w : World} {os : Array Obj} (h : ItsV T base X (.slice (some ⟨g, 0, none⟩) X.length cap) w) (hl : Y.length = X.length) :
  ItsV T base Y (.slice (some ⟨g, 0, none⟩) X.length cap) (sortWorldK ic 2 w g 0 n Y.toArray os) /\ Below base w (sortWorldK ic 2 w g 0 n Y.toArray os) := by
 unfold sortWorldK Go.Sort.putRowK
 rw [zH4]
 rcases h.2 with ⟨e, _⟩ | ⟨g', cap', cur, e, hbase, hb, h1, h2, h3, h4⟩
 ·cases e
 ·simp only [Value.slice.injEq, Option.some.injEq, Addr.mk.injEq, and_true, true_and] at e
  obtain ⟨rfl, rfl⟩ := e
  have hly := zAL Y
  have hgr := zIB (w := w) (g := g) (n := n) (os := os) ((Y.flatMap ic).toArray)
  refine ⟨⟨by rw [hly], .inr ⟨g, cap, _, by rw [hl], hbase, zJ3 _ hb, by omega, h2, by simp [Go.Sort.putCells, h3], ?_⟩⟩, ?_⟩
  ·rw [← hly]
   exact zHU cur _ (by rw [hly]; have := Nat.mul_le_mul_right 2 h1; omega)
  ·exact ⟨hgr.os, hgr.tape, hgr.output, hgr.size, fun k hk => (hgr.block k (Nat.lt_of_lt_of_le hk (Nat.le_trans hbase (Nat.le_of_lt (Array.getElem?_eq_some_iff.1 hb).1))) fun e => by injection e with e; omega)⟩
end Im
namespace Im
open Go.RowKit Go.Maps
attribute [local go_sem] Oper.semAt_some
theorem zCj : (Tryz.prog.info? 108).map (fun i => (i.zero, i.size, i.bytes)) = some (some (.agg #[.int .i64 0, .int .i64 0]), 2, 16) := by kernel_rfl
abbrev seqv (Bm : Nat) : Value := .func (.func 129) #[] #[.pointer (some ⟨Bm, 0, none⟩)]
def zLK (X : Itm -> Prop) (w : World) (e : Ending) (w' : World) : Prop := ∃ (v : Value) (ss : List Itm), e = .returned v /\ All X ss /\ ItsV 108 w.heap.size ss v w' /\ Below w.heap.size w w'
def AxI (w : World) (Bm : Nat) (x : Itm) (a' : Act) (W : World) : Prop := ∃ Bx, w.heap.size <= Bx /\ W.heap[Bx]? = some (.cells #[.int .i64 x.1, .int .i64 x.2] 108 (0, 0)) /\
 a' = { tmps := #[.slice none 0 0, seqv Bm, .pointer (some ⟨w.heap.size, 0, none⟩), undef, .slice none 0 0, .pointer (some ⟨Bx, 0, none⟩), seqv Bm, iv x, undef, undef, undef, undef, undef], defers := [] }
theorem zLO (w : World) (Bm : Nat) (x : Itm) (a' : Act) (B : Nat) : OwnFrom B (fun (_ : Unit) W => AxI w Bm x a' W) := by
 rintro s W W' row ⟨Bx, h1, h2, h3⟩ hg hr
 refine ⟨Bx, h1, (hg.block Bx (Array.getElem?_eq_some_iff.1 h2).1 fun e => ?_).trans h2, h3⟩
 obtain ⟨_, o, ho, hc⟩ := hr Bx e.symm
 rw [h2] at ho
 cases ho
 cases hc
theorem appendSeq_in (F : Fence) (n : Nat) (h68 : F.fn 131) (h53 : F.fn 129) (hro : F.round = none) (hn : 3 <= n) (Bm b nn : Nat) (X : Itm -> Prop) (w : World) (hBm : Bm < w.heap.size) (hm : w.cell? ⟨Bm, 0, none⟩ = some (.map (some b))) (hs : MS b nn X w) (hnn : nn <= 1000000) :
  CallsIn F n Tryz.prog 131 #[.slice none 0 0, seqv Bm] w (zLK X w) := by
 have h1 : 1 <= n := by omega
 obtain ⟨i0, hi, hz0, hz1, hz2⟩ := info_parts zCj
 refine callsIn_of_wp_marks Tryz.func131 rfl h68 ?_ hro
 simp only [Tryz.ntmps131, List.size_toArray, List.length_cons, List.length_nil, Nat.reduceAdd, Nat.reduceSub, Array.replicate_succ, Array.replicate_zero, List.push_toArray, List.append_toArray, List.nil_append, List.cons_append]
 gi_wp2
 have bO := Boxed.new w 50 (.slice none 0 0)
 have hb0 : Below w.heap.size w (w.alloc (.cells #[.slice none 0 0] 50)) := Gr.boxed _ _
 have hsz : (w.alloc (.cells #[.slice none 0 0] 50)).heap.size = w.heap.size + 1 := by simp
 have hst := keys_stops F (n - 1) h53 hro (by omega) Bm b nn X _ (by rw [hsz]; omega) (Gr.cell_later hb0 hm) (hs.went hb0)
 clear hm hs
 refine wpIn_rangeFunc_ownH hro h1 (gf := 129) (lb := #[.pointer (some ⟨Bm, 0, none⟩)]) rfl h53 (enters_of Tryz.func129 (by kernel_rfl) rfl)
  hst walksK_t walksK_b (Below.refl _ _) (fun _ => rfl)
  (fun (pre : List Itm) W => (∃ v, Boxed W w.heap.size 50 v /\ W.ownsRow w.heap.size 108 2 v pre.length (pre.flatMap ic) /\ True) /\ Below w.heap.size w W)
  (fun _ _ _ => False)
  (OwnFrom.and (Own.from (holdsRow_own w.heap.size w.heap.size 50 108 2 (fun (pre : List Itm) => pre.length) (fun (pre : List Itm) => pre.flatMap ic) (fun _ _ => True)) _) (ownFrom_below (Nat.le_refl _) (by rw [hsz]; omega)))
  (fun _ _ _ _ _ hs _ _ => hs)
  ⟨⟨_, bO, World.ownsRow_nil _ _ _ _, trivial⟩, hb0⟩
  (AxI w Bm) (fun x a' => zLO w Bm x a' _) ?assign ?body ?done ?stop
 case assign =>
  rintro l pre x W K ⟨⟨v, hv, hrow, _⟩, hB⟩ hK
  have hx : iv x = .agg #[.int .i64 x.1, .int .i64 x.2] := rfl
  rw [hx] at *
  gi_wp2
  exact hK _ _ ((KeepsOthers.alloc _ _).from _) (KeepsWalks.alloc _ _) ⟨⟨v, hv.alloc _, hrow.alloc _, trivial⟩, hB.alloc hB.size _⟩ ⟨W.heap.size, hB.size, World.alloc_heap_new _ _, rfl⟩
 case body =>
  rintro l pre x a' W hl ⟨r, hr⟩ ⟨⟨v, hv, hrow, _⟩, hB⟩ ⟨Bx, hBx, bX, rfl⟩ hlt
  have hc := hv.cell
  have c0 : W.cell? ⟨Bx, 0, none⟩ = some (.int .i64 x.1) := by simp [World.cell?, bX]
  have c1 : W.cell? ⟨Bx, 1, none⟩ = some (.int .i64 x.2) := by simp [World.cell?, bX]
  have hx : iv x = .agg #[.int .i64 x.1, .int .i64 x.2] := rfl
  rw [hx]
  clear hr bX hx
  gi_wp2_with (gi_at_builtin; refine wpListIn_append_own _ rfl _ _ 50 rfl w.heap.size 108 i0 (.agg #[.int .i64 0, .int .i64 0]) 2 16 Tryz.underlying50 hi hz0 hz1 hz2 rfl (by decide) _ _ _ rfl (hrow.alloc _) ⟨W.heap.size, 0, none⟩ 1 1 (ic x) rfl rfl ?c1 ?c2 (by unfold maxLen; omega) (by omega) (by have := hB.size; simp; omega) ?_)
  case c1 =>
   intro i u hu
   match i, hu with
   | 0, hu =>
    simp [ic] at hu
    subst hu
    simp [Addr.add]
   | 1, hu =>
    simp [ic] at hu
    subst hu
    simp [Addr.add]
   | i + 2, hu => simp [ic] at hu
  case c2 =>
   intro u hu
   simp only [ic, List.mem_cons, List.not_mem_nil, or_false] at hu
   rcases hu with rfl | rfl <;> rfl
  intro v' w1 hown' hgrow _
  obtain ⟨g', cap', rfl⟩ := ownsRow_succ hown'
  obtain ⟨hv1, hv2, hr2, hk2, hb2⟩ := hv.appended (by decide) hrow hB.size (Nat.le_refl _) hown' hgrow
  have hc1 := hv1.cell
  have hf1 := hv1.frozen
  gi_wp2
  exact ⟨hk2.from _, hk2.walks, ⟨_, hv2, by simpa [ic] using hr2, trivial⟩, hB.trans hb2⟩
 case done =>
  rintro D ys W hD hS ⟨⟨v, hv, hrow, _⟩, hB⟩ hK
  have hc := hv.cell
  gi_wp2
  refine ⟨by simp, .inl ⟨_, _, rfl, run_takeDeferred hK, ?_⟩⟩
  exact ⟨_, results_tmp rfl _ _ _, v, ys, rfl, hS, ownsRow_putObj hrow _ hK rfl, hB.trans (belowK_b (w := w) (Nat.le_refl _) W D _ _ (by rw [hsz] at hD; omega) hK rfl rfl)⟩
 case stop =>
  rintro D c pre W _ _ h _
  exact h.elim
end Im
namespace Im
open Go.RowKit Go.Maps
theorem zKn (base : Nat) (X : List Itm) (a : Option Addr) (c : Nat) (w : World) (h : ItsV 108 base X (.slice a X.length c) w) (hl : X.length <= 1000000) :
  Calls Tryz.prog 128 #[.slice a X.length c, .func (.func 125) #[] #[]] w fun e w' => e = .returned (.tuple #[]) /\ ∃ Y, Y.Perm X /\ Y.Pairwise (fun a b => ¬ ltP b a) /\ ItsV 108 base Y (.slice a X.length c) w' /\ Below base w w' := by
 have h' := h
 rcases h'.2 with ⟨e, h0⟩ | ⟨g, cap, cur, e, hbase, hb, _⟩
 ·simp only [Value.slice.injEq] at e
  obtain ⟨rfl, _, rfl⟩ := e
  obtain rfl : X = [] := List.eq_nil_of_length_eq_zero h0
  exact (zJJ none 0 _ w).mono fun e w' ⟨h1, h2⟩ => ⟨h1, [], .nil, .nil, by rw [h2]; exact h, by rw [h2]; exact .refl _ _⟩
 ·simp only [Value.slice.injEq, true_and] at e
  obtain ⟨rfl, rfl⟩ := e
  obtain ⟨hH, hg⟩ := zJ4 h
  have eg : ∀ args w, (callFunc 125 args).run Tryz.prog w = .ok (.enter 125 args) w := enters_of Tryz.func125 (by kernel_rfl) rfl
  have hcmp : CmpLays Tryz.prog 125 #[] ic 2 cmpI g 0 X.toArray.size w := fun m os dk _ x y => (zBq x y _).mono fun e w' ⟨h1, q, os', h2⟩ => ⟨h1, q, os', h2⟩
  have hcon := AnyQ.slices_SortFunc Tryz.sortItm 2 Tryz.isAgg108 Tryz.sizeOf108 ic zA2 (fun x v hv => by simp [ic] at hv; rcases hv with rfl | rfl <;> rfl) cmpI zMP 125 #[] g 0 c X.toArray w eg hcmp hH hg (by simp; omega)
  change Calls Tryz.prog 128 _ _ _ at hcon
  simp only [List.size_toArray] at hcon
  refine hcon.mono ?_
  rintro e w' ⟨h1, d', n, os, ⟨p1, p2, p3⟩, hs, rfl⟩
  simp only [List.size_toArray] at p1 p3
  have hp : d'.toList.Perm X := by
   have e1 : d'.extract 0 X.length = d' := by rw [← p1]; simp
   have e2 : X.toArray.extract 0 X.length = X.toArray := by simp
   rw [e1, e2] at p3
   simpa using p3
  have hd : d' = d'.toList.toArray := by simp
  have hr := zLm (Y := d'.toList) (n := n) (os := os) h (by rw [Array.length_toList]; exact p1)
  rw [← hd] at hr
  refine ⟨h1, d'.toList, hp, ?_, hr⟩
  rw [List.pairwise_iff_getElem]
  intro i j hi hj hij
  have hi' : i < d'.size := by simpa using hi
  have hj' : j < d'.size := by simpa using hj
  have := hs i j (Nat.zero_le _) hij (by omega)
  rw [zF9, decide_eq_false_iff_not, getElem!_pos d' j hj', getElem!_pos d' i hi'] at this
  simpa using this
theorem zDq (Bm b nn : Nat) (X : Itm -> Prop) (w : World) (hBm : Bm < w.heap.size) (hm : w.cell? ⟨Bm, 0, none⟩ = some (.map (some b))) (hs : MS b nn X w) (hnn : nn <= 1000000) :
  Calls Tryz.prog 131 #[.slice none 0 0, seqv Bm] w (zLK X w) :=
 (callsIn_wide (n := 3)).1 (appendSeq_in Fence.wide 3 trivial trivial rfl (by omega) Bm b nn X w hBm hm hs hnn)
theorem zFB (Bm b nn : Nat) (X : Itm -> Prop) (w : World) (hBm : Bm < w.heap.size) (hm : w.cell? ⟨Bm, 0, none⟩ = some (.map (some b))) (hs : MS b nn X w) (hnn : nn <= 1000000) :
  Calls Tryz.prog 127 #[seqv Bm] w (zLK X w) := by
 have A := zNR (zDq Bm b nn X w hBm hm hs hnn)
 clear hm hs
 go_enter Tryz.func127, Tryz.ntmps127
 go_wp2_with (go_at_call 131; refine A.out.mono ?_; rintro e w1 ⟨v, ss, rfl, h1, h2, h3⟩; have H1 := zNR h1; have H2 := zNR h2; have H3 := zNR h3; clear h1 h2 h3)
 go_ret
 exact ⟨v, ss, rfl, H1.out, H2.out, H3.out⟩
theorem zJ8 (b : Nat) (w : World) : Calls Tryz.prog 124 #[.map (some b)] w fun e w' => e = .returned (seqv w.heap.size) /\ w' = w.alloc (.cells #[.map (some b)] 149) := by
 go_enter Tryz.func124, Tryz.ntmps124
 go_wp2
 go_ret
 exact ⟨rfl, rfl⟩
def zCS (P : Itm -> Prop) (w : World) (e : Ending) (w' : World) : Prop := ∃ (Y : List Itm) (a : Option Addr) (c : Nat), e = .returned (.slice a Y.length c) /\ Is Y P /\ ItsV 108 w.heap.size Y (.slice a Y.length c) w' /\ Below w.heap.size w w'
theorem zDE (Bm b nn : Nat) (X : Itm -> Prop) (w : World) (hBm : Bm < w.heap.size) (hm : w.cell? ⟨Bm, 0, none⟩ = some (.map (some b))) (hs : MS b nn X w) (hnn : nn <= 1000000) (M : List Itm) (hM : ∀ x, X x -> x ∈ M) (hML : M.length <= 1000000) :
  Calls Tryz.prog 123 #[seqv Bm, .func (.func 125) #[] #[]] w (zCS (fun x => X x /\ W64 x) w) := by
 have C := zNR (zFB Bm b nn X w hBm hm hs hnn)
 clear hm hs
 have HM := zNR hM
 clear hM
 go_enter Tryz.func123, Tryz.ntmps123
 go_wp2_with (first
  | (go_at_call 127; refine C.out.mono ?_; rintro e w1 ⟨v, ss, rfl, h1, h2, h3⟩; obtain ⟨a, c, rfl, hc⟩ := h2.shape; have hlen := Nat.le_trans (zBE h1.nd fun x hx => HM.out x ((h1.mem x (h1.fit x hx)).1 hx)) hML; have H1 := zNR h1; have H2 := zNR h2; have H3 := zNR h3; clear h1 h2 h3)
  | (go_at_call 128; refine (zKn _ ss a c _ H2.out hlen).mono ?_; rintro e w2 ⟨rfl, Y, k1, k2, k3, k4⟩; have K1 := zNR k1; have K2 := zNR k2; have K3 := zNR k3; have K4 := zNR k4; clear k1 k2 k3 k4))
 go_ret
 have el := K1.out.length_eq
 refine ⟨Y, a, c, by rw [el]; rfl, ⟨zGT (K1.out.nodup_iff.2 H1.out.nd) K2.out, fun x => ?_⟩, by rw [el]; exact K3.out, H3.out.trans K4.out⟩
 rw [K1.out.mem_iff]
 exact ⟨fun hx => ⟨(H1.out.mem x (H1.out.fit x hx)).1 hx, H1.out.fit x hx⟩, fun ⟨h1, h2⟩ => (H1.out.mem x h2).2 h1⟩
theorem zKG (b nn : Nat) (X : Itm -> Prop) (w : World) (hs : MS b nn X w) (hnn : nn <= 1000000) (M : List Itm) (hM : ∀ x, X x -> x ∈ M) (hML : M.length <= 1000000) :
  Calls Tryz.prog 107 #[.map (some b)] w (zCS (fun x => X x /\ W64 x) w) := by
 have hb : Below w.heap.size w (w.alloc (.cells #[.map (some b)] 149)) := Gr.boxed _ _
 have S := zNR (zDE w.heap.size b nn X (w.alloc (.cells #[.map (some b)] 149)) (by simp) (Gr.zAB rfl rfl) (hs.went hb) hnn M hM hML)
 have K := zNR (zJ8 b w)
 clear hs
 go_enter Tryz.func107, Tryz.ntmps107
 go_wp2_with (first
  | (go_at_call 124; refine K.out.mono ?_; rintro e w1 ⟨rfl, rfl⟩)
  | (go_at_call 123; refine S.out.mono ?_; rintro e w2 ⟨Y, a, c, rfl, h1, h2, h3⟩; have H1 := zNR h1; have H2 := zNR h2; have H3 := zNR h3; clear h1 h2 h3))
 go_ret
 exact ⟨Y, a, c, rfl, H1.out, H2.out.mono (by simp), hb.trans (H3.out.mono (by simp))⟩
