/- A part of the proof. -/
import Derived.Test.YtbajcecncgdpmaaGreatDoorPk23
set_option maxRecDepth 100000
set_option linter.unusedVariables false
namespace Go.Proofs.YtbajcecncgdpmaaGreatDoor
open Go.RowKit Go.Maps
namespace Im
theorem zJI (x y : Itm) : ltOf cmpI x y = decide (ltP x y) := by
 unfold ltOf cmpI orI Lib.compareInt ltP
 by_cases h1 : x.1 < y.1
 ·simp [h1]
 ·by_cases h2 : y.1 < x.1
  ·have h3 : ¬ x.1 = y.1 := by omega
   simp [h1, h2, h3]
  ·have h3 : x.1 = y.1 := by omega
   by_cases h4 : x.2 < y.2
   ·simp [h3, h4]
   ·by_cases h5 : y.2 < x.2 <;> simp [h3, h4, h5]
theorem zQP : Go.Sort.SWO (ltOf cmpI) where
 irrefl x := by
  rw [zJI, decide_eq_false_iff_not]
  exact fun h => h.ne rfl
 trans x y z h1 h2 := by
  rw [zJI, decide_eq_true_iff] at *
  exact h1.trans h2
 ntrans x y z h1 h2 := by
  rw [zJI, decide_eq_false_iff_not] at *
  unfold ltP at *
  omega
theorem zI2 : ∀ {l : List Itm}, l.Nodup -> l.Pairwise (fun a b => ¬ ltP b a) -> Srt l
 | [], _, _ => zLR
 | x :: l, h, k => by
  have h' := List.nodup_cons.1 h
  have k' := List.pairwise_cons.1 k
  refine List.pairwise_cons.2 ⟨fun y hy => ?_, zI2 h'.2 k'.2⟩
  exact zMz (k'.1 y hy) fun e => h'.1 (e ▸ hy)
theorem zM1 (d : Array Itm) : Go.Sort.flatK ic 2 d = (d.toList.flatMap ic).toArray := by
 have hl := zAS d.toList
 apply Array.ext_getElem?
 intro t
 by_cases ht : t < d.size * 2
 ·have hi : t / 2 < d.toList.length := by rw [Array.length_toList]; omega
  have h := Rw.zBy ic zBg d.toList (t / 2) hi (t % 2) (Nat.mod_lt _ (by omega))
  rw [show t / 2 * 2 + t % 2 = t by omega] at h
  conv => rhs; rw [List.getElem?_toArray, h]
  unfold Go.Sort.flatK
  rw [Array.getElem?_map, Array.getElem?_range, if_pos ht]
  have hi' : t / 2 < d.size := by omega
  rw [Option.map_some, getElem!_pos d (t / 2) hi', Array.getElem_toList]
  rcases Nat.mod_two_eq_zero_or_one t with e | e <;> rw [e] <;> simp [ic]
 ·conv => rhs; rw [List.getElem?_toArray]
  rw [Array.getElem?_eq_none (by simp; omega), List.getElem?_eq_none (by rw [hl, Array.length_toList]; omega)]
theorem zN5 {T base : Nat} {X : List Itm} {g cap : Nat} {w : World} (h : ItsV T base X (.slice (some ⟨g, 0, none⟩) X.length cap) w) : Go.Sort.HoldsK ic 2 w g 0 X.toArray /\ g < w.heap.size := by
 rcases h.2 with ⟨e, _⟩ | ⟨g', cap', cur, e, _, hb, _, _, h3, h4⟩
 ·cases e
 ·simp only [Value.slice.injEq, Option.some.injEq, Addr.mk.injEq, and_true, true_and] at e
  obtain ⟨rfl, rfl⟩ := e
  refine ⟨?_, (Array.getElem?_eq_some_iff.1 hb).1⟩
  unfold Go.Sort.HoldsK
  rw [zM1]
  intro j hj
  have hl := zAS X
  simp only [List.size_toArray] at hj
  refine ⟨?_, by simp [World.frozen?, hb]⟩
  have h1 : (cur.toList.take (X.length * 2))[j]? = (X.flatMap ic)[j]? := by rw [h4]
  rw [List.getElem?_take_of_lt (by omega)] at h1
  simp only [World.cell?, hb, Nat.zero_add]
  simp only [Option.isSome_none, Bool.false_eq_true, if_false]
  rw [← Array.getElem?_toList, h1]
  simp only [List.getElem!_toArray, id]
  rw [List.getElem?_eq_getElem hj, getElem!_pos _ j hj]
theorem zJa {w : World} {g n : Nat} {os : Array Obj} {cur : Array Value} {e : TypeId} {fr : Nat × Nat} (F : Array Value) (hb : w.heap[g]? = some (.cells cur e fr)) :
  (Go.Sort.grow (Go.Sort.putRow id (Go.Sort.ahead w n) g 0 F) os).heap[g]? = some (.cells (Go.Sort.putCells id 0 F cur) e fr) := by
 have hg : g < w.heap.size := (Array.getElem?_eq_some_iff.1 hb).1
 rw [Go.Sort.heap_grow_old _ _ (by simpa using hg)]
 simp [Go.Sort.putRow, Go.Sort.mapBlock, Go.Sort.ahead, Array.getElem?_modify, hb, Go.Sort.onCells]
theorem zGv {w : World} {g n : Nat} {os : Array Obj} (F : Array Value) : w.grownBy (Go.Sort.grow (Go.Sort.putRow id (Go.Sort.ahead w n) g 0 F) os) (some g) := by
 refine ⟨rfl, rfl, rfl, by simp, fun k hk hne => ?_⟩
 rw [Go.Sort.heap_grow_old _ _ (by simpa using hk)]
 have : g ≠ k := fun e => hne (by rw [e])
 simp [Go.Sort.putRow, Go.Sort.mapBlock, Go.Sort.ahead, Array.getElem?_modify, this]
theorem zFD (cur : Array Value) (L : List Value) (h : L.length <= cur.size) : (Go.Sort.putCells id 0 L.toArray cur).toList.take L.length = L := by
 apply List.ext_getElem?
 intro j
 by_cases hj : j < L.length
 ·rw [List.getElem?_take_of_lt hj, Array.getElem?_toList]
  simp [Go.Sort.putCells, hj, show j < cur.size by omega]
 ·rw [List.getElem?_take_eq_none (by omega), List.getElem?_eq_none (by omega)]
theorem zQx {T base : Nat} {X Y : List Itm} {g cap n : Nat} {w : World} {os : Array Obj} (h : ItsV T base X (.slice (some ⟨g, 0, none⟩) X.length cap) w) (hl : Y.length = X.length) :
  ItsV T base Y (.slice (some ⟨g, 0, none⟩) X.length cap) (sortWorldK ic 2 w g 0 n Y.toArray os) /\ Below base w (sortWorldK ic 2 w g 0 n Y.toArray os) := by
 unfold sortWorldK Go.Sort.putRowK
 rw [zM1]
 rcases h.2 with ⟨e, _⟩ | ⟨g', cap', cur, e, hbase, hb, h1, h2, h3, h4⟩
 ·cases e
 ·simp only [Value.slice.injEq, Option.some.injEq, Addr.mk.injEq, and_true, true_and] at e
  obtain ⟨rfl, rfl⟩ := e
  have hly := zAS Y
  have hgr := zGv (w := w) (g := g) (n := n) (os := os) ((Y.flatMap ic).toArray)
  refine ⟨⟨by rw [hly], .inr ⟨g, cap, _, by rw [hl], hbase, zJa _ hb, by omega, h2, by simp [Go.Sort.putCells, h3], ?_⟩⟩, ?_⟩
  ·rw [← hly]
   exact zFD cur _ (by rw [hly]; have := Nat.mul_le_mul_right 2 h1; omega)
  ·exact ⟨hgr.os, hgr.tape, hgr.output, hgr.size, fun k hk => (hgr.block k (Nat.lt_of_lt_of_le hk (Nat.le_trans hbase (Nat.le_of_lt (Array.getElem?_eq_some_iff.1 hb).1))) fun e => by injection e with e; omega)⟩
theorem zOn (base : Nat) (X : List Itm) (a : Option Addr) (c : Nat) (w : World) (h : ItsV 57 base X (.slice a X.length c) w) (hl : X.length <= 1000000) :
  Calls Tryz.prog 178 #[.slice a X.length c, .func (.func 174) #[] #[]] w fun e w' => e = .returned (.tuple #[]) /\ ∃ Y, Y.Perm X /\ Y.Pairwise (fun a b => ¬ ltP b a) /\ ItsV 57 base Y (.slice a X.length c) w' /\ Below base w w' := by
 have h' := h
 rcases h'.2 with ⟨e, h0⟩ | ⟨g, cap, cur, e, hbase, hb, _⟩
 ·simp only [Value.slice.injEq] at e
  obtain ⟨rfl, _, rfl⟩ := e
  obtain rfl : X = [] := List.eq_nil_of_length_eq_zero h0
  exact (zLh none 0 _ w).mono fun e w' ⟨h1, h2⟩ => ⟨h1, [], .nil, .nil, by rw [h2]; exact h, by rw [h2]; exact .refl _ _⟩
 ·simp only [Value.slice.injEq, true_and] at e
  obtain ⟨rfl, rfl⟩ := e
  obtain ⟨hH, hg⟩ := zN5 h
  have eg : ∀ args w, (callFunc 174 args).run Tryz.prog w = .ok (.enter 174 args) w := enters_of Tryz.func174 (by kernel_rfl) rfl
  have hcmp : CmpLays Tryz.prog 174 #[] ic 2 cmpI g 0 X.toArray.size w := fun m os dk _ x y => (zIV x y _).mono fun e w' ⟨h1, q, os', h2⟩ => ⟨h1, q, os', h2⟩
  have hcon := AnyQ.slices_SortFunc Tryz.sortItm 2 Tryz.isAgg57 Tryz.sizeOf57 ic zBg (fun x v hv => by simp [ic] at hv; rcases hv with rfl | rfl <;> rfl) cmpI zQP 174 #[] g 0 c X.toArray w eg hcmp hH hg (by simp; omega)
  change Calls Tryz.prog 178 _ _ _ at hcon
  simp only [List.size_toArray] at hcon
  refine hcon.mono ?_
  rintro e w' ⟨h1, d', n, os, ⟨p1, p2, p3⟩, hs, rfl⟩
  simp only [List.size_toArray] at p1 p3
  have hp : d'.toList.Perm X := by
   have e1 : d'.extract 0 X.length = d' := by rw [← p1]; simp
   have e2 : X.toArray.extract 0 X.length = X.toArray := by simp
   rw [e1, e2] at p3
   simpa using p3
  have hd : d' = d'.toList.toArray := by simp
  have hr := zQx (Y := d'.toList) (n := n) (os := os) h (by rw [Array.length_toList]; exact p1)
  rw [← hd] at hr
  refine ⟨h1, d'.toList, hp, ?_, hr⟩
  rw [List.pairwise_iff_getElem]
  intro i j hi hj hij
  have hi' : i < d'.size := by simpa using hi
  have hj' : j < d'.size := by simpa using hj
  have := hs i j (Nat.zero_le _) hij (by omega)
  rw [zJI, decide_eq_false_iff_not, getElem!_pos d' j hj', getElem!_pos d' i hi'] at this
  simpa using this
theorem zGO (Bm b nn : Nat) (X : Itm -> Prop) (w : World) (hBm : Bm < w.heap.size) (hm : w.cell? ⟨Bm, 0, none⟩ = some (.map (some b))) (hs : MS b nn X w) (hnn : nn <= 1000000) :
  Calls Tryz.prog 181 #[.slice none 0 0, seqv Bm] w (zRc X w) :=
 (callsIn_wide (n := 3)).1 (appendSeq_in Fence.wide 3 trivial trivial rfl (by omega) Bm b nn X w hBm hm hs hnn)
theorem zHe (Bm b nn : Nat) (X : Itm -> Prop) (w : World) (hBm : Bm < w.heap.size) (hm : w.cell? ⟨Bm, 0, none⟩ = some (.map (some b))) (hs : MS b nn X w) (hnn : nn <= 1000000) :
  Calls Tryz.prog 177 #[seqv Bm] w (zRc X w) := by
 have A := zUB (zGO Bm b nn X w hBm hm hs hnn)
 clear hm hs
 go_enter Tryz.func177, Tryz.ntmps177
 go_wp2_with (go_at_call 181; refine A.out.mono ?_; rintro e w1 ⟨v, ss, rfl, h1, h2, h3⟩; have H1 := zUB h1; have H2 := zUB h2; have H3 := zUB h3; clear h1 h2 h3)
 go_ret
 exact ⟨v, ss, rfl, H1.out, H2.out, H3.out⟩
theorem zPd (b : Nat) (w : World) : Calls Tryz.prog 173 #[.map (some b)] w fun e w' => e = .returned (seqv w.heap.size) /\ w' = w.alloc (.cells #[.map (some b)] 190) := by
 go_enter Tryz.func173, Tryz.ntmps173
 go_wp2
 go_ret
 exact ⟨rfl, rfl⟩
def zDm (P : Itm -> Prop) (w : World) (e : Ending) (w' : World) : Prop := ∃ (Y : List Itm) (a : Option Addr) (c : Nat), e = .returned (.slice a Y.length c) /\ Is Y P /\ ItsV 57 w.heap.size Y (.slice a Y.length c) w' /\ Below w.heap.size w w'
theorem zE7 (Bm b nn : Nat) (X : Itm -> Prop) (w : World) (hBm : Bm < w.heap.size) (hm : w.cell? ⟨Bm, 0, none⟩ = some (.map (some b))) (hs : MS b nn X w) (hnn : nn <= 1000000) (M : List Itm) (hM : ∀ x, X x -> x ∈ M) (hML : M.length <= 1000000) :
  Calls Tryz.prog 172 #[seqv Bm, .func (.func 174) #[] #[]] w (zDm (fun x => X x /\ W64 x) w) := by
 have C := zUB (zHe Bm b nn X w hBm hm hs hnn)
 clear hm hs
 have HM := zUB hM
 clear hM
 go_enter Tryz.func172, Tryz.ntmps172
 go_wp2_with (first
  | (go_at_call 177; refine C.out.mono ?_; rintro e w1 ⟨v, ss, rfl, h1, h2, h3⟩; obtain ⟨a, c, rfl, hc⟩ := h2.shape; have hlen := Nat.le_trans (zBw h1.nd fun x hx => HM.out x ((h1.mem x (h1.fit x hx)).1 hx)) hML; have H1 := zUB h1; have H2 := zUB h2; have H3 := zUB h3; clear h1 h2 h3)
  | (go_at_call 178; refine (zOn _ ss a c _ H2.out hlen).mono ?_; rintro e w2 ⟨rfl, Y, k1, k2, k3, k4⟩; have K1 := zUB k1; have K2 := zUB k2; have K3 := zUB k3; have K4 := zUB k4; clear k1 k2 k3 k4))
 go_ret
 have el := K1.out.length_eq
 refine ⟨Y, a, c, by rw [el]; rfl, ⟨zI2 (K1.out.nodup_iff.2 H1.out.nd) K2.out, fun x => ?_⟩, by rw [el]; exact K3.out, H3.out.trans K4.out⟩
 rw [K1.out.mem_iff]
 exact ⟨fun hx => ⟨(H1.out.mem x (H1.out.fit x hx)).1 hx, H1.out.fit x hx⟩, fun ⟨h1, h2⟩ => (H1.out.mem x h2).2 h1⟩
theorem zCh (b nn : Nat) (X : Itm -> Prop) (w : World) (hs : MS b nn X w) (hnn : nn <= 1000000) (M : List Itm) (hM : ∀ x, X x -> x ∈ M) (hML : M.length <= 1000000) :
  Calls Tryz.prog 150 #[.map (some b)] w (zDm (fun x => X x /\ W64 x) w) := by
 have hb : Below w.heap.size w (w.alloc (.cells #[.map (some b)] 190)) := Gr.boxed _ _
 have S := zUB (zE7 w.heap.size b nn X (w.alloc (.cells #[.map (some b)] 190)) (by simp) (Gr.zAA rfl rfl) (hs.went hb) hnn M hM hML)
 have K := zUB (zPd b w)
 clear hs
 go_enter Tryz.func150, Tryz.ntmps150
 go_wp2_with (first
  | (go_at_call 173; refine K.out.mono ?_; rintro e w1 ⟨rfl, rfl⟩)
  | (go_at_call 172; refine S.out.mono ?_; rintro e w2 ⟨Y, a, c, rfl, h1, h2, h3⟩; have H1 := zUB h1; have H2 := zUB h2; have H3 := zUB h3; clear h1 h2 h3))
 go_ret
 exact ⟨Y, a, c, rfl, H1.out, H2.out.mono (by simp), hb.trans (H3.out.mono (by simp))⟩
end Im
namespace Au
open Gr (Gram Sh Box cell_later step)
open Im
theorem zTx : laidOutB Tryz.prog = true := by kernel_rfl
theorem rowA : 134 < Tryz.prog.types.size := of_decide_eq_true (by kernel_rfl)
theorem lawA : Keyed Tryz.prog 134 := .of_law (deep_law_laid zTx (m := 2) (by omega) rowA (by kernel_rfl) (by rw [Tryz.underlying134]))
theorem kaA : Ka Tryz.prog 134 :=
 zTV lawA Tryz.underlying134 Tryz.underlying3 (by kernel_rfl) (by kernel_rfl) (by kernel_rfl) (Tryz.prog.types.size - 1) (by have := rowA; omega)
theorem lawS : Keyed Tryz.prog 9 := string_keyed Tryz.underlying9
theorem zNq (w : World) : (zeroValue 3).run Tryz.prog w = .ok (.int .i64 0) w := by kernel_rfl
theorem zC7 : (Tryz.prog.info? 49).map (fun i => (i.zero, i.size, i.bytes)) = some (some (.slice none 0 0), 1, 24) := by kernel_rfl
abbrev TM (b n : Nat) (X : Itm -> Option Int) (w : World) : Prop := TMap Tryz.prog 134 3 b n X w
abbrev SM (b n : Nat) (L : List ByteArray) (w : World) : Prop := SMap Tryz.prog 9 3 b n L w
def LAt (S : Nat -> Prop) (K : List Itm) (u : Value) (w : World) : Prop := ∃ a c, u = .slice a K.length c /\ K.length <= c /\ ItsA a K w /\ (K ≠ [] -> ∀ b o, a = some ⟨b, o, none⟩ -> ¬ S b)
theorem LAt.fr {S T : Nat -> Prop} {K : List Itm} {u : Value} {w w' : World} (h : LAt S K u w) (f : Sep.Fr S w w') (x : Sep.Ext T S w) : LAt T K u w' := by
 obtain ⟨a, c, h1, h2, h3, h4⟩ := h
 by_cases hn : K = []
 ·subst hn
  exact ⟨a, c, h1, h2, .nil _ _, fun q => absurd rfl q⟩
 ·refine ⟨a, c, h1, h2, h3.keep fun b o e => f.block b (zDM h3 hn e) (h4 hn b o e), fun _ b o e q => ?_⟩
  have := zDM h3 hn e
  rcases x b q with r | r
  ·exact h4 hn b o e r
  ·omega
theorem LAt.went {S : Nat -> Prop} {K : List Itm} {u : Value} {w w' : World} (h : LAt S K u w) (hb : Below w.heap.size w w') : LAt S K u w' := h.fr (.of_below hb) (.refl _ _)
structure Parts (W : World) (p : Nat) (S : Nat -> Prop) (h : Sh) (G : Gram) (ks : List (List Itm)) (X : Itm -> Option Int) (n : Nat) (a : Option Addr) (c bt bn : Nat) (us : List Value) (w : World) : Prop where
 below : Below W.heap.size W w
 box : Box p h G w
 items : w.cell? ⟨p, 4, none⟩ = some (.slice a ks.length c)
 targets : w.cell? ⟨p, 5, none⟩ = some (.map (some bt))
 numbers : w.cell? ⟨p, 6, none⟩ = some (.map (some bn))
 free : w.frozen? ⟨p, 4, none⟩ = false
 row : w.ownsRow W.heap.size 49 1 (.slice a ks.length c) ks.length us
 lists : ∀ i (h : i < ks.length) (h' : i < us.length), LAt S ks[i] us[i] w
 tm : TM bt n X w
 sm : SM bn ks.length (zCF ks) w
 sp : S p
 st : S bt
 sn : S bn
 sr : ∀ g, (Value.slice a ks.length c).ownBlock = some g -> S g
 tp : bt ≠ p
 np : bn ≠ p
 tn : bt ≠ bn
 rp : ∀ g, (Value.slice a ks.length c).ownBlock = some g -> g ≠ p /\ g ≠ bt /\ g ≠ bn
 low : ∀ k, S k -> W.heap.size <= k
 inn : Sep.Inn S w
theorem Parts.len {W : World} {p : Nat} {S : Nat -> Prop} {h : Sh} {G : Gram} {ks : List (List Itm)} {X : Itm -> Option Int} {n : Nat} {a : Option Addr} {c bt bn : Nat} {us : List Value} {w : World} (k : Parts W p S h G ks X n a c bt bn us w) : us.length = ks.length := by
 have := k.row.1
 omega
theorem Parts.went {W : World} {p : Nat} {S : Nat -> Prop} {h : Sh} {G : Gram} {ks : List (List Itm)} {X : Itm -> Option Int} {n : Nat} {a : Option Addr} {c bt bn : Nat} {us : List Value} {w w' : World} (k : Parts W p S h G ks X n a c bt bn us w) (hb : Below w.heap.size w w') : Parts W p S h G ks X n a c bt bn us w' :=
 ⟨Gr.step k.below hb, k.box.later hb, cell_later hb k.items, cell_later hb k.targets, cell_later hb k.numbers, (World.frozen?_of_block (a := ⟨p, 4, none⟩) (hb.block p (k.inn p k.sp))).trans k.free, Sep.zAC k.row fun g hg => hb.block g (k.inn g (k.sr g hg)), fun i h1 h2 => (k.lists i h1 h2).went hb, k.tm.keep (hb.block _ (k.inn _ k.st)), k.sm.keep (hb.block _ (k.inn _ k.sn)), k.sp, k.st, k.sn, k.sr, k.tp, k.np, k.tn, k.rp, k.low, k.inn.le hb.size⟩
def BAt (W : World) (p : Nat) (S : Nat -> Prop) (h : Sh) (G : Gram) (ks : List (List Itm)) (X : Itm -> Option Int) (n : Nat) (w : World) : Prop := ∃ a c bt bn us, Parts W p S h G ks X n a c bt bn us w
theorem BAt.went {W : World} {p : Nat} {S : Nat -> Prop} {h : Sh} {G : Gram} {ks : List (List Itm)} {X : Itm -> Option Int} {n : Nat} {w w' : World} (k : BAt W p S h G ks X n w) (hb : Below w.heap.size w w') : BAt W p S h G ks X n w' := by
 obtain ⟨a, c, bt, bn, us, k⟩ := k
 exact ⟨a, c, bt, bn, us, k.went hb⟩
theorem BAt.inn {W : World} {p : Nat} {S : Nat -> Prop} {h : Sh} {G : Gram} {ks : List (List Itm)} {X : Itm -> Option Int} {n : Nat} {w : World} (k : BAt W p S h G ks X n w) : Sep.Inn S w := by
 obtain ⟨a, c, bt, bn, us, k⟩ := k
 exact k.inn
theorem BAt.eq {W : World} {p : Nat} {S : Nat -> Prop} {h : Sh} {G : Gram} {ks : List (List Itm)} {X Y : Itm -> Option Int} {n m : Nat} {w : World} (k : BAt W p S h G ks X n w) (e : ∀ x, X x = Y x) (hm : n <= m) : BAt W p S h G ks Y m w := by
 obtain ⟨a, c, bt, bn, us, k⟩ := k
 exact ⟨a, c, bt, bn, us, { k with tm := (k.tm.eq e).mono hm }⟩
theorem Parts.at {W : World} {p : Nat} {S : Nat -> Prop} {h : Sh} {G : Gram} {ks : List (List Itm)} {X : Itm -> Option Int} {n : Nat} {a : Option Addr} {c bt bn : Nat} {us : List Value} {w : World} (k : Parts W p S h G ks X n a c bt bn us w) {i : Nat} (hi : i < ks.length) :
  ∃ b a' c', a = some ⟨b, 0, none⟩ /\ w.cell? ⟨b, i, none⟩ = some (.slice a' ks[i].length c') /\ ks[i].length <= c' /\ ItsA a' ks[i] w /\ (ks[i] ≠ [] -> ∀ b o, a' = some ⟨b, o, none⟩ -> ¬ S b) := by
 have hl := k.len
 obtain ⟨a', c', e, h1, h2, h3⟩ := k.lists i hi (by omega)
 rcases k.row.2 with ⟨_, h0⟩ | ⟨g, cap, cur, he, _⟩
 ·omega
 ·simp only [Value.slice.injEq] at he
  obtain ⟨rfl, _, _⟩ := he
  have := World.ownsRow.cells k.row (g := g) rfl i us[i] (List.getElem?_eq_getElem (by omega))
  rw [WideShapes.add_plain] at this
  refine ⟨g, a', c', rfl, ?_, h1, h2, h3⟩
  rw [← e]
  simpa using this
theorem zQt {W : World} {p : Nat} {S : Nat -> Prop} {h : Sh} {G : Gram} {ks : List (List Itm)} {X : Itm -> Option Int} {n : Nat} {a : Option Addr} {c bt bn : Nat} {us : List Value} {w : World} (k : Parts W p S h G ks X n a c bt bn us w) : (Value.slice a ks.length c).ownBlock = none \/ (Value.slice a ks.length c).ownBlock ≠ some bn := by
 cases hb : (Value.slice a ks.length c).ownBlock with
 | none => exact .inl rfl
 | some g => exact .inr fun e => (k.rp g hb).2.2 (by injection e)
theorem Parts.turn {W : World} {p : Nat} {S : Nat -> Prop} {h : Sh} {G : Gram} {ks : List (List Itm)} {X Y : Itm -> Option Int} {n m : Nat} {a : Option Addr} {c bt bn : Nat} {us : List Value} {w w' : World} (k : Parts W p S h G ks X n a c bt bn us w) (f : Sep.Fr (· = bt) w w') (ht : TM bt m Y w') : Parts W p S h G ks Y m a c bt bn us w' :=
 have e (q : Nat) (hq : S q) (hne : q ≠ bt) : w'.heap[q]? = w.heap[q]? := f.block q (k.inn q hq) hne
 have ep := e p k.sp fun q => k.tp q.symm
 have F : Sep.Fr S w w' := f.mono fun q hq => hq ▸ k.st
 ⟨k.below.trans (F.below k.low k.below.size), ⟨(World.cell?_of_block (a := ⟨p, 0, none⟩) ep).trans k.box.x0, (World.cell?_of_block (a := ⟨p, 1, none⟩) ep).trans k.box.x1, (World.cell?_of_block (a := ⟨p, 2, none⟩) ep).trans k.box.x2, (World.cell?_of_block (a := ⟨p, 3, none⟩) ep).trans k.box.x3⟩,
  (World.cell?_of_block (a := ⟨p, 4, none⟩) ep).trans k.items, (World.cell?_of_block (a := ⟨p, 5, none⟩) ep).trans k.targets, (World.cell?_of_block (a := ⟨p, 6, none⟩) ep).trans k.numbers, (World.frozen?_of_block (a := ⟨p, 4, none⟩) ep).trans k.free,
  Sep.zAC k.row fun g hg => e g (k.sr g hg) (k.rp g hg).2.1, fun i h1 h2 => (k.lists i h1 h2).fr F (.refl _ _), ht, k.sm.keep (e bn k.sn fun q => k.tn q.symm), k.sp, k.st, k.sn, k.sr, k.tp, k.np, k.tn, k.rp, k.low, k.inn.le f.size⟩
theorem added {W : World} {p : Nat} {S : Nat -> Prop} {h : Sh} {G : Gram} {ks : List (List Itm)} {X : Itm -> Option Int} {n : Nat} {a a' : Option Addr} {c c' bt bn : Nat} {us : List Value} {w w1 w2 : World} {K : List Itm} {u : Value}
  (k : Parts W p S h G ks X n a c bt bn us w) (hu : LAt S K u w)
  (hm1 : SM bn (ks.length + 1) (zCF ks ++ [keyB K]) w1) (hg1 : w.grownBy w1 (some bn))
  (hown2 : w2.ownsRow W.heap.size 49 1 (.slice a' (ks.length + 1) c') (ks.length + 1) (us ++ [u]))
  (hg2 : (w1.alloc (.cells #[u] 49)).grownBy w2 (Value.slice a ks.length c).ownBlock)
  (hloc : (Value.slice a' (ks.length + 1) c').ownBlock = (Value.slice a ks.length c).ownBlock \/ (Value.slice a' (ks.length + 1) c').ownBlock = some (w1.alloc (.cells #[u] 49)).heap.size) :
  ∃ T, BAt W p T h G (ks ++ [K]) X n (w2.setCell ⟨p, 4, none⟩ (.slice a' (ks.length + 1) c')) /\ Sep.Fr S w (w2.setCell ⟨p, 4, none⟩ (.slice a' (ks.length + 1) c')) /\ Sep.Ext T S w := by
 have hp : p < w.heap.size := k.inn p k.sp
 have hsz1 : w.heap.size <= w1.heap.size := hg1.size
 have hsz2 : w1.heap.size + 1 <= w2.heap.size := by have := hg2.size; simpa using this
 have hrow : ∀ g, (Value.slice a ks.length c).ownBlock = some g -> S g /\ g < w.heap.size /\ g ≠ p /\ g ≠ bt /\ g ≠ bn := fun g hg => ⟨k.sr g hg, k.inn g (k.sr g hg), k.rp g hg⟩
 have hrow' : ∀ g, (Value.slice a' (ks.length + 1) c').ownBlock = some g -> ((Value.slice a ks.length c).ownBlock = some g \/ w.heap.size <= g) /\ g < w2.heap.size /\ W.heap.size <= g := fun g hg => by
  refine ⟨?_, (hown2.lt g hg).2, (hown2.lt g hg).1⟩
  rcases hloc with e | e
  ·exact .inl (e.symm.trans hg)
  ·have e2 := e.symm.trans hg
   injection e2 with e2
   simp at e2
   exact .inr (by omega)
 have F2 : Sep.Fr S w w2 := Sep.Fr.grown (w := w1.alloc (.cells #[u] 49)) (Sep.Fr.alloc (Sep.Fr.grown (.refl _ _) hg1 fun q hq => by injection hq with hq; subst hq; exact .inl k.sn) _) hg2 fun q hq => .inl (hrow q hq).1
 have F3 : Sep.Fr S w (w2.setCell ⟨p, 4, none⟩ (.slice a' (ks.length + 1) c')) := Sep.Fr.setCell F2 _ k.sp _
 have X3 : Sep.Ext (fun q => S q \/ (Value.slice a' (ks.length + 1) c').ownBlock = some q) S w := by
  rintro q (hq | hq)
  ·exact .inl hq
  ·rcases (hrow' q hq).1 with e | e
   ·exact .inl (hrow q e).1
   ·exact .inr e
 have hkeep : ∀ q, q < w.heap.size -> q ≠ bn -> (Value.slice a ks.length c).ownBlock ≠ some q -> w2.heap[q]? = w.heap[q]? := fun q hq h1 h2 => by
  rw [hg2.block q (by simp; omega) (fun e => h2 e.symm), Below.heap_alloc _ _ _ (by omega), hg1.block q hq (fun e => h1 (by injection e))]
 have ep : w2.heap[p]? = w.heap[p]? := hkeep p hp (fun e => k.np e.symm) fun e => (hrow p e).2.2.1 rfl
 have cell : ∀ j v, j ≠ 4 -> w.cell? ⟨p, j, none⟩ = some v -> (w2.setCell ⟨p, 4, none⟩ (.slice a' (ks.length + 1) c')).cell? ⟨p, j, none⟩ = some v := fun j v hj hc => by
  rw [World.cell?_setCell_other _ _ _ _ (fun e => hj (congrArg Addr.off e).symm)]
  exact (World.cell?_of_block (a := ⟨p, j, none⟩) ep).trans hc
 have hbn : bn < w1.heap.size := hm1.lt
 have hl3 : ∀ q, q ≠ p -> (w2.setCell ⟨p, 4, none⟩ (.slice a' (ks.length + 1) c')).heap[q]? = w2.heap[q]? := fun q hq => Below.heap_setCell _ _ _ _ hq
 refine ⟨_, ⟨a', c', bt, bn, us ++ [u], ?_⟩, F3, X3⟩
 have hel : (ks ++ [K]).length = ks.length + 1 := by simp
 refine ⟨k.below.trans (F3.below k.low k.below.size), ⟨cell 0 _ (by omega) k.box.x0, cell 1 _ (by omega) k.box.x1, cell 2 _ (by omega) k.box.x2, cell 3 _ (by omega) k.box.x3⟩, ?_, cell 5 _ (by omega) k.targets, cell 6 _ (by omega) k.numbers, ?_, ?_, ?_, ?_, ?_, .inl k.sp, .inl k.st, .inl k.sn, ?_, k.tp, k.np, k.tn, ?_, ?_, ?_⟩
 ·rw [hel]
  exact World.cell?_setCell_same _ _ _ ((World.cell?_of_block (a := ⟨p, 4, none⟩) ep).trans k.items)
 ·rw [World.frozen?_setCell]
  exact (World.frozen?_of_block (a := ⟨p, 4, none⟩) ep).trans k.free
 ·rw [hel]
  refine Sep.zAC hown2 fun g hg => hl3 g fun e => ?_
  subst e
  rcases (hrow' g hg).1 with q | q
  ·exact (hrow g q).2.2.1 rfl
  ·omega
 ·intro i h1 h2
  have hul := k.len
  have key : LAt S (ks ++ [K])[i] (us ++ [u])[i] w := by
   by_cases hi : i < ks.length
   ·rw [List.getElem_append_left hi, List.getElem_append_left (by omega)]
    exact k.lists i hi (by omega)
   ·rw [List.getElem_append_right (by omega), List.getElem_append_right (by omega)]
    simpa using hu
  exact key.fr F3 X3
 ·refine k.tm.keep ((hl3 bt k.tp).trans (hkeep bt (k.inn _ k.st) k.tn fun e => (hrow bt e).2.2.2.1 rfl))
 ·rw [hel]
  have : zCF (ks ++ [K]) = zCF ks ++ [keyB K] := by simp [zCF]
  rw [this]
  refine hm1.keep ((hl3 bn k.np).trans ?_)
  rw [hg2.block bn (by simp; omega) (fun e => (hrow bn e.symm).2.2.2.2 rfl), Below.heap_alloc _ _ _ hbn]
 ·rw [hel]
  exact fun g hg => .inr hg
 ·rw [hel]
  intro g hg
  rcases (hrow' g hg).1 with q | q
  ·exact (hrow g q).2.2
  ·have h1 := k.inn _ k.st
   have h2 := k.inn _ k.sn
   exact ⟨by omega, by omega, by omega⟩
 ·rintro q (hq | hq)
  ·exact k.low q hq
  ·exact (hrow' q hq).2.2
 ·rintro q (hq | hq)
  ·have := k.inn q hq
   rw [show (w2.setCell ⟨p, 4, none⟩ (.slice a' (ks.length + 1) c')).heap.size = w2.heap.size by simp [World.setCell]]
   omega
  ·rw [show (w2.setCell ⟨p, 4, none⟩ (.slice a' (ks.length + 1) c')).heap.size = w2.heap.size by simp [World.setCell]]
   exact (hrow' q hq).2.1
