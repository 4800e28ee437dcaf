/- A part of the proof. -/
import Derived.Test.YtbajcecncgdpmaaGreatDoorPk18
import Derived.Test.YtbajcecncgdpmaaGreatDoorPk26
set_option maxRecDepth 100000
set_option linter.unusedVariables false
namespace Go.Proofs.YtbajcecncgdpmaaGreatDoor
open Go.RowKit Go.Maps
namespace Im
theorem zIJ (x y : Itm) : ltOf cmpI x y = decide (ltP x y) := by
 unfold ltOf cmpI orI Lib.compareInt ltP
 by_cases h1 : x.1 < y.1
 ·simp [h1]
 ·by_cases h2 : y.1 < x.1
  ·have h3 : ¬ x.1 = y.1 := by omega
   simp [h1, h2, h3]
  ·have h3 : x.1 = y.1 := by omega
   by_cases h4 : x.2 < y.2
   ·simp [h3, h4]
   ·by_cases h5 : y.2 < x.2 <;> simp [h3, h4, h5]
theorem zQj : Go.Sort.SWO (ltOf cmpI) where
 irrefl x := by
  rw [zIJ, decide_eq_false_iff_not]
  exact fun h => h.ne rfl
 trans x y z h1 h2 := by
  rw [zIJ, decide_eq_true_iff] at *
  exact h1.trans h2
 ntrans x y z h1 h2 := by
  rw [zIJ, decide_eq_false_iff_not] at *
  unfold ltP at *
  omega
theorem zIf : ∀ {l : List Itm}, l.Nodup -> l.Pairwise (fun a b => ¬ ltP b a) -> Srt l
 | [], _, _ => zMI
 | x :: l, h, k => by
  have h' := List.nodup_cons.1 h
  have k' := List.pairwise_cons.1 k
  refine List.pairwise_cons.2 ⟨fun y hy => ?_, zIf h'.2 k'.2⟩
  exact zLS (k'.1 y hy) fun e => h'.1 (e ▸ hy)
theorem zKd (d : Array Itm) : Go.Sort.flatK ic 2 d = (d.toList.flatMap ic).toArray := by
 have hl := zAQ d.toList
 apply Array.ext_getElem?
 intro t
 by_cases ht : t < d.size * 2
 ·have hi : t / 2 < d.toList.length := by rw [Array.length_toList]; omega
  have h := Rw.zB3 ic zBQ d.toList (t / 2) hi (t % 2) (Nat.mod_lt _ (by omega))
  rw [show t / 2 * 2 + t % 2 = t by omega] at h
  conv => rhs; rw [List.getElem?_toArray, h]
  unfold Go.Sort.flatK
  rw [Array.getElem?_map, Array.getElem?_range, if_pos ht]
  have hi' : t / 2 < d.size := by omega
  rw [Option.map_some, getElem!_pos d (t / 2) hi', Array.getElem_toList]
  rcases Nat.mod_two_eq_zero_or_one t with e | e <;> rw [e] <;> simp [ic]
 ·conv => rhs; rw [List.getElem?_toArray]
  rw [Array.getElem?_eq_none (by simp; omega), List.getElem?_eq_none (by rw [hl, Array.length_toList]; omega)]
theorem zNP {T base : Nat} {X : List Itm} {g cap : Nat} {w : World} (h : ItsV T base X (.slice (some ⟨g, 0, none⟩) X.length cap) w) : Go.Sort.HoldsK ic 2 w g 0 X.toArray /\ g < w.heap.size := by
 rcases h.2 with ⟨e, _⟩ | ⟨g', cap', cur, e, _, hb, _, _, h3, h4⟩
 ·cases e
 ·simp only [Value.slice.injEq, Option.some.injEq, Addr.mk.injEq, and_true, true_and] at e
  obtain ⟨rfl, rfl⟩ := e
  refine ⟨?_, (Array.getElem?_eq_some_iff.1 hb).1⟩
  unfold Go.Sort.HoldsK
  rw [zKd]
  intro j hj
  have hl := zAQ X
  simp only [List.size_toArray] at hj
  refine ⟨?_, by simp [World.frozen?, hb]⟩
  have h1 : (cur.toList.take (X.length * 2))[j]? = (X.flatMap ic)[j]? := by rw [h4]
  rw [List.getElem?_take_of_lt (by omega)] at h1
  simp only [World.cell?, hb, Nat.zero_add]
  simp only [Option.isSome_none, Bool.false_eq_true, if_false]
  rw [← Array.getElem?_toList, h1]
  simp only [List.getElem!_toArray, id]
  rw [List.getElem?_eq_getElem hj, getElem!_pos _ j hj]
theorem zIC {w : World} {g n : Nat} {os : Array Obj} {cur : Array Value} {e : TypeId} {fr : Nat × Nat} (F : Array Value) (hb : w.heap[g]? = some (.cells cur e fr)) :
  (Go.Sort.grow (Go.Sort.putRow id (Go.Sort.ahead w n) g 0 F) os).heap[g]? = some (.cells (Go.Sort.putCells id 0 F cur) e fr) := by
 have hg : g < w.heap.size := (Array.getElem?_eq_some_iff.1 hb).1
 rw [Go.Sort.heap_grow_old _ _ (by simpa using hg)]
 simp [Go.Sort.putRow, Go.Sort.mapBlock, Go.Sort.ahead, Array.getElem?_modify, hb, Go.Sort.onCells]
theorem zGX {w : World} {g n : Nat} {os : Array Obj} (F : Array Value) : w.grownBy (Go.Sort.grow (Go.Sort.putRow id (Go.Sort.ahead w n) g 0 F) os) (some g) := by
 refine ⟨rfl, rfl, rfl, by simp, fun k hk hne => ?_⟩
 rw [Go.Sort.heap_grow_old _ _ (by simpa using hk)]
 have : g ≠ k := fun e => hne (by rw [e])
 simp [Go.Sort.putRow, Go.Sort.mapBlock, Go.Sort.ahead, Array.getElem?_modify, this]
theorem zFF (cur : Array Value) (L : List Value) (h : L.length <= cur.size) : (Go.Sort.putCells id 0 L.toArray cur).toList.take L.length = L := by
 apply List.ext_getElem?
 intro j
 by_cases hj : j < L.length
 ·rw [List.getElem?_take_of_lt hj, Array.getElem?_toList]
  simp [Go.Sort.putCells, hj, show j < cur.size by omega]
 ·rw [List.getElem?_take_eq_none (by omega), List.getElem?_eq_none (by omega)]
theorem zP3 {T base : Nat} {X Y : List Itm} {g cap n : Nat} {w : World} {os : Array Obj} (h : ItsV T base X (.slice (some ⟨g, 0, none⟩) X.length cap) w) (hl : Y.length = X.length) :
  ItsV T base Y (.slice (some ⟨g, 0, none⟩) X.length cap) (sortWorldK ic 2 w g 0 n Y.toArray os) /\ Below base w (sortWorldK ic 2 w g 0 n Y.toArray os) := by
 unfold sortWorldK Go.Sort.putRowK
 rw [zKd]
 rcases h.2 with ⟨e, _⟩ | ⟨g', cap', cur, e, hbase, hb, h1, h2, h3, h4⟩
 ·cases e
 ·simp only [Value.slice.injEq, Option.some.injEq, Addr.mk.injEq, and_true, true_and] at e
  obtain ⟨rfl, rfl⟩ := e
  have hly := zAQ Y
  have hgr := zGX (w := w) (g := g) (n := n) (os := os) ((Y.flatMap ic).toArray)
  refine ⟨⟨by rw [hly], .inr ⟨g, cap, _, by rw [hl], hbase, zIC _ hb, by omega, h2, by simp [Go.Sort.putCells, h3], ?_⟩⟩, ?_⟩
  ·rw [← hly]
   exact zFF cur _ (by rw [hly]; have := Nat.mul_le_mul_right 2 h1; omega)
  ·exact ⟨hgr.os, hgr.tape, hgr.output, hgr.size, fun k hk => (hgr.block k (Nat.lt_of_lt_of_le hk (Nat.le_trans hbase (Nat.le_of_lt (Array.getElem?_eq_some_iff.1 hb).1))) fun e => by injection e with e; omega)⟩
theorem zOf (base : Nat) (X : List Itm) (a : Option Addr) (c : Nat) (w : World) (h : ItsV 57 base X (.slice a X.length c) w) (hl : X.length <= 1000000) :
  Calls Tryz.prog 178 #[.slice a X.length c, .func (.func 174) #[] #[]] w fun e w' => e = .returned (.tuple #[]) /\ ∃ Y, Y.Perm X /\ Y.Pairwise (fun a b => ¬ ltP b a) /\ ItsV 57 base Y (.slice a X.length c) w' /\ Below base w w' := by
 have h' := h
 rcases h'.2 with ⟨e, h0⟩ | ⟨g, cap, cur, e, hbase, hb, _⟩
 ·simp only [Value.slice.injEq] at e
  obtain ⟨rfl, _, rfl⟩ := e
  obtain rfl : X = [] := List.eq_nil_of_length_eq_zero h0
  exact (zMH none 0 _ w).mono fun e w' ⟨h1, h2⟩ => ⟨h1, [], .nil, .nil, by rw [h2]; exact h, by rw [h2]; exact .refl _ _⟩
 ·simp only [Value.slice.injEq, true_and] at e
  obtain ⟨rfl, rfl⟩ := e
  obtain ⟨hH, hg⟩ := zNP h
  have eg : ∀ args w, (callFunc 174 args).run Tryz.prog w = .ok (.enter 174 args) w := enters_of Tryz.func174 (by kernel_rfl) rfl
  have hcmp : CmpLays Tryz.prog 174 #[] ic 2 cmpI g 0 X.toArray.size w := fun m os dk _ x y => (zHA x y _).mono fun e w' ⟨h1, q, os', h2⟩ => ⟨h1, q, os', h2⟩
  have hcon := AnyQ.slices_SortFunc Tryz.sortItm 2 Tryz.isAgg57 Tryz.sizeOf57 ic zBQ (fun x v hv => by simp [ic] at hv; rcases hv with rfl | rfl <;> rfl) cmpI zQj 174 #[] g 0 c X.toArray w eg hcmp hH hg (by simp; omega)
  change Calls Tryz.prog 178 _ _ _ at hcon
  simp only [List.size_toArray] at hcon
  refine hcon.mono ?_
  rintro e w' ⟨h1, d', n, os, ⟨p1, p2, p3⟩, hs, rfl⟩
  simp only [List.size_toArray] at p1 p3
  have hp : d'.toList.Perm X := by
   have e1 : d'.extract 0 X.length = d' := by rw [← p1]; simp
   have e2 : X.toArray.extract 0 X.length = X.toArray := by simp
   rw [e1, e2] at p3
   simpa using p3
  have hd : d' = d'.toList.toArray := by simp
  have hr := zP3 (Y := d'.toList) (n := n) (os := os) h (by rw [Array.length_toList]; exact p1)
  rw [← hd] at hr
  refine ⟨h1, d'.toList, hp, ?_, hr⟩
  rw [List.pairwise_iff_getElem]
  intro i j hi hj hij
  have hi' : i < d'.size := by simpa using hi
  have hj' : j < d'.size := by simpa using hj
  have := hs i j (Nat.zero_le _) hij (by omega)
  rw [zIJ, decide_eq_false_iff_not, getElem!_pos d' j hj', getElem!_pos d' i hi'] at this
  simpa using this
theorem zFI (Bm b nn : Nat) (X : Itm -> Prop) (w : World) (hBm : Bm < w.heap.size) (hm : w.cell? ⟨Bm, 0, none⟩ = some (.map (some b))) (hs : MS b nn X w) (hnn : nn <= 1000000) :
  Calls Tryz.prog 181 #[.slice none 0 0, seqv Bm] w (zPJ X w) :=
 (callsIn_wide (n := 3)).1 (appendSeq_in Fence.wide 3 trivial trivial rfl (by omega) Bm b nn X w hBm hm hs hnn)
theorem zG9 (Bm b nn : Nat) (X : Itm -> Prop) (w : World) (hBm : Bm < w.heap.size) (hm : w.cell? ⟨Bm, 0, none⟩ = some (.map (some b))) (hs : MS b nn X w) (hnn : nn <= 1000000) :
  Calls Tryz.prog 177 #[seqv Bm] w (zPJ X w) := by
 have A := zSt (zFI Bm b nn X w hBm hm hs hnn)
 clear hm hs
 go_enter Tryz.func177, Tryz.ntmps177
 go_wp2_with (go_at_call 181; refine A.out.mono ?_; rintro e w1 ⟨v, ss, rfl, h1, h2, h3⟩; have H1 := zSt h1; have H2 := zSt h2; have H3 := zSt h3; clear h1 h2 h3)
 go_ret
 exact ⟨v, ss, rfl, H1.out, H2.out, H3.out⟩
theorem zNa (b : Nat) (w : World) : Calls Tryz.prog 173 #[.map (some b)] w fun e w' => e = .returned (seqv w.heap.size) /\ w' = w.alloc (.cells #[.map (some b)] 190) := by
 go_enter Tryz.func173, Tryz.ntmps173
 go_wp2
 go_ret
 exact ⟨rfl, rfl⟩
def zDk (P : Itm -> Prop) (w : World) (e : Ending) (w' : World) : Prop := ∃ (Y : List Itm) (a : Option Addr) (c : Nat), e = .returned (.slice a Y.length c) /\ Is Y P /\ ItsV 57 w.heap.size Y (.slice a Y.length c) w' /\ Below w.heap.size w w'
theorem zEf (Bm b nn : Nat) (X : Itm -> Prop) (w : World) (hBm : Bm < w.heap.size) (hm : w.cell? ⟨Bm, 0, none⟩ = some (.map (some b))) (hs : MS b nn X w) (hnn : nn <= 1000000) (M : List Itm) (hM : ∀ x, X x -> x ∈ M) (hML : M.length <= 1000000) :
  Calls Tryz.prog 172 #[seqv Bm, .func (.func 174) #[] #[]] w (zDk (fun x => X x /\ W64 x) w) := by
 have C := zSt (zG9 Bm b nn X w hBm hm hs hnn)
 clear hm hs
 have HM := zSt hM
 clear hM
 go_enter Tryz.func172, Tryz.ntmps172
 go_wp2_with (first
  | (go_at_call 177; refine C.out.mono ?_; rintro e w1 ⟨v, ss, rfl, h1, h2, h3⟩; obtain ⟨a, c, rfl, hc⟩ := h2.shape; have hlen := Nat.le_trans (zBh h1.nd fun x hx => HM.out x ((h1.mem x (h1.fit x hx)).1 hx)) hML; have H1 := zSt h1; have H2 := zSt h2; have H3 := zSt h3; clear h1 h2 h3)
  | (go_at_call 178; refine (zOf _ ss a c _ H2.out hlen).mono ?_; rintro e w2 ⟨rfl, Y, k1, k2, k3, k4⟩; have K1 := zSt k1; have K2 := zSt k2; have K3 := zSt k3; have K4 := zSt k4; clear k1 k2 k3 k4))
 go_ret
 have el := K1.out.length_eq
 refine ⟨Y, a, c, by rw [el]; rfl, ⟨zIf (K1.out.nodup_iff.2 H1.out.nd) K2.out, fun x => ?_⟩, by rw [el]; exact K3.out, H3.out.trans K4.out⟩
 rw [K1.out.mem_iff]
 exact ⟨fun hx => ⟨(H1.out.mem x (H1.out.fit x hx)).1 hx, H1.out.fit x hx⟩, fun ⟨h1, h2⟩ => (H1.out.mem x h2).2 h1⟩
theorem zCN (b nn : Nat) (X : Itm -> Prop) (w : World) (hs : MS b nn X w) (hnn : nn <= 1000000) (M : List Itm) (hM : ∀ x, X x -> x ∈ M) (hML : M.length <= 1000000) :
  Calls Tryz.prog 150 #[.map (some b)] w (zDk (fun x => X x /\ W64 x) w) := by
 have hb : Below w.heap.size w (w.alloc (.cells #[.map (some b)] 190)) := Gr.boxed _ _
 have S := zSt (zEf w.heap.size b nn X (w.alloc (.cells #[.map (some b)] 190)) (by simp) (Gr.zAA rfl rfl) (hs.went hb) hnn M hM hML)
 have K := zSt (zNa b w)
 clear hs
 go_enter Tryz.func150, Tryz.ntmps150
 go_wp2_with (first
  | (go_at_call 173; refine K.out.mono ?_; rintro e w1 ⟨rfl, rfl⟩)
  | (go_at_call 172; refine S.out.mono ?_; rintro e w2 ⟨Y, a, c, rfl, h1, h2, h3⟩; have H1 := zSt h1; have H2 := zSt h2; have H3 := zSt h3; clear h1 h2 h3))
 go_ret
 exact ⟨Y, a, c, rfl, H1.out, H2.out.mono (by simp), hb.trans (H3.out.mono (by simp))⟩
