/-
  Package item: list: the items of a set in order, by the library's maps.Keys, slices.Collect, slices.SortFunc, slices.SortedFunc.
-/
import Derived.Test.YtjjmoonajijnmaaItemSorted
import Derived.Test.YtjjmoonajijnmaaMItemI
namespace Go.Proofs.Ytjjmoonajijnmaa.Im
open Go.RowKit Go.Maps
set_option linter.unusedVariables false

set_option maxRecDepth 100000 in
theorem sort_its (base : Nat) (X : List Itm) (a : Option Addr) (c : Nat) (w : World) (h : ItsV 51 base X (.slice a X.length c) w) (hl : X.length ≤ 1000000) :
    Calls Try.prog 82 #[.slice a X.length c, .func (.func 79) #[] #[]] w fun e w' => e = .returned (.tuple #[]) ∧ ∃ Y, Y.Perm X ∧ Y.Pairwise (fun a b => ¬ ltP b a) ∧ ItsV 51 base Y (.slice a X.length c) w' ∧ Below base w w' := by
  have h' := h
  rcases h'.2 with ⟨e, h0⟩ | ⟨g, cap, cur, e, hbase, hb, _⟩
  · simp only [Value.slice.injEq] at e
    obtain ⟨rfl, _, rfl⟩ := e
    obtain rfl : X = [] := List.eq_nil_of_length_eq_zero h0
    exact (sort_none none 0 _ w).mono fun e w' ⟨h1, h2⟩ => ⟨h1, [], .nil, .nil, by rw [h2]; exact h, by rw [h2]; exact .refl _ _⟩
  · simp only [Value.slice.injEq, true_and] at e
    obtain ⟨rfl, rfl⟩ := e
    obtain ⟨hH, hg⟩ := holds_ic h
    have eg : ∀ args w, (callFunc 79 args).run Try.prog w = .ok (.enter 79 args) w := enters_of Try.func79 (by kernel_rfl) rfl
    have hcmp : CmpLays Try.prog 79 #[] ic 2 cmpI g 0 X.toArray.size w := fun m os dk _ x y => (compare_any x y _).mono fun e w' ⟨h1, q, os', h2⟩ => ⟨h1, q, os', h2⟩
    have hcon := AnyQ.slices_SortFunc Try.sortItm 2 Try.isAgg51 Try.sizeOf51 ic ic_length (fun x v hv => by simp [ic] at hv; rcases hv with rfl | rfl <;> rfl) cmpI swo_cmp 79 #[] g 0 c X.toArray w eg hcmp hH hg (by simp; omega)
    change Calls Try.prog 82 _ _ _ at hcon
    simp only [List.size_toArray] at hcon
    refine hcon.mono ?_
    rintro e w' ⟨h1, d', n, os, ⟨p1, p2, p3⟩, hs, rfl⟩
    simp only [List.size_toArray] at p1 p3
    have hp : d'.toList.Perm X := by
      have e1 : d'.extract 0 X.length = d' := by rw [← p1]; simp
      have e2 : X.toArray.extract 0 X.length = X.toArray := by simp
      rw [e1, e2] at p3
      simpa using p3
    have hd : d' = d'.toList.toArray := by simp
    have hr := its_row (Y := d'.toList) (n := n) (os := os) h (by rw [Array.length_toList]; exact p1)
    rw [← hd] at hr
    refine ⟨h1, d'.toList, hp, ?_, hr⟩
    rw [List.pairwise_iff_getElem]
    intro i j hi hj hij
    have hi' : i < d'.size := by simpa using hi
    have hj' : j < d'.size := by simpa using hj
    have := hs i j (Nat.zero_le _) hij (by omega)
    rw [lt_cmp, decide_eq_false_iff_not, getElem!_pos d' j hj', getElem!_pos d' i hi'] at this
    simpa using this

theorem appendSeq_any (Bm b nn : Nat) (X : Itm → Prop) (w : World) (hBm : Bm < w.heap.size) (hm : w.cell? ⟨Bm, 0, none⟩ = some (.map (some b))) (hs : MS b nn X w) (hnn : nn ≤ 1000000) :
    Calls Try.prog 86 #[.slice none 0 0, seqv Bm] w (RowOf X w) :=
  (callsIn_wide (n := 3)).1 (appendSeq_in Fence.wide 3 trivial trivial rfl (by omega) Bm b nn X w hBm hm hs hnn)

set_option maxRecDepth 100000 in
theorem collect_any (Bm b nn : Nat) (X : Itm → Prop) (w : World) (hBm : Bm < w.heap.size) (hm : w.cell? ⟨Bm, 0, none⟩ = some (.map (some b))) (hs : MS b nn X w) (hnn : nn ≤ 1000000) :
    Calls Try.prog 81 #[seqv Bm] w (RowOf X w) := by
  have A := Lib.hid (appendSeq_any Bm b nn X w hBm hm hs hnn)
  clear hm hs
  go_enter Try.func81, Try.ntmps81
  go_wp2_with (go_at_call 86; refine A.out.mono ?_; rintro e w1 ⟨v, ss, rfl, h1, h2, h3⟩; have H1 := Lib.hid h1; have H2 := Lib.hid h2; have H3 := Lib.hid h3; clear h1 h2 h3)
  go_ret
  exact ⟨v, ss, rfl, H1.out, H2.out, H3.out⟩

theorem keys_any (b : Nat) (w : World) : Calls Try.prog 78 #[.map (some b)] w fun e w' => e = .returned (seqv w.heap.size) ∧ w' = w.alloc (.cells #[.map (some b)] 94) := by
  go_enter Try.func78, Try.ntmps78
  go_wp2
  go_ret
  exact ⟨rfl, rfl⟩

/-- A new list comes back: in order just the items of which P says yes. -/
def ListIs (P : Itm → Prop) (w : World) (e : Ending) (w' : World) : Prop := ∃ (Y : List Itm) (a : Option Addr) (c : Nat), e = .returned (.slice a Y.length c) ∧ Is Y P ∧ ItsV 51 w.heap.size Y (.slice a Y.length c) w' ∧ Below w.heap.size w w'

set_option maxRecDepth 100000 in
theorem sortedFunc_any (Bm b nn : Nat) (X : Itm → Prop) (w : World) (hBm : Bm < w.heap.size) (hm : w.cell? ⟨Bm, 0, none⟩ = some (.map (some b))) (hs : MS b nn X w) (hnn : nn ≤ 1000000) (M : List Itm) (hM : ∀ x, X x → x ∈ M) (hML : M.length ≤ 1000000) :
    Calls Try.prog 77 #[seqv Bm, .func (.func 79) #[] #[]] w (ListIs (fun x => X x ∧ W64 x) w) := by
  have C := Lib.hid (collect_any Bm b nn X w hBm hm hs hnn)
  clear hm hs
  have HM := Lib.hid hM
  clear hM
  go_enter Try.func77, Try.ntmps77
  go_wp2_with (first
    | (go_at_call 81; refine C.out.mono ?_; rintro e w1 ⟨v, ss, rfl, h1, h2, h3⟩; obtain ⟨a, c, rfl, hc⟩ := h2.shape; have hlen := Nat.le_trans (nodup_len h1.nd fun x hx => HM.out x ((h1.mem x (h1.fit x hx)).1 hx)) hML; have H1 := Lib.hid h1; have H2 := Lib.hid h2; have H3 := Lib.hid h3; clear h1 h2 h3)
    | (go_at_call 82; refine (sort_its _ ss a c _ H2.out hlen).mono ?_; rintro e w2 ⟨rfl, Y, k1, k2, k3, k4⟩; have K1 := Lib.hid k1; have K2 := Lib.hid k2; have K3 := Lib.hid k3; have K4 := Lib.hid k4; clear k1 k2 k3 k4))
  go_ret
  have el := K1.out.length_eq
  refine ⟨Y, a, c, by rw [el]; rfl, ⟨srt_of (K1.out.nodup_iff.2 H1.out.nd) K2.out, fun x => ?_⟩, by rw [el]; exact K3.out, H3.out.trans K4.out⟩
  rw [K1.out.mem_iff]
  exact ⟨fun hx => ⟨(H1.out.mem x (H1.out.fit x hx)).1 hx, H1.out.fit x hx⟩, fun ⟨h1, h2⟩ => (H1.out.mem x h2).2 h1⟩

set_option maxRecDepth 100000 in
theorem list_any (b nn : Nat) (X : Itm → Prop) (w : World) (hs : MS b nn X w) (hnn : nn ≤ 1000000) (M : List Itm) (hM : ∀ x, X x → x ∈ M) (hML : M.length ≤ 1000000) :
    Calls Try.prog 64 #[.map (some b)] w (ListIs (fun x => X x ∧ W64 x) w) := by
  have hb : Below w.heap.size w (w.alloc (.cells #[.map (some b)] 94)) := Gr.boxed _ _
  have S := Lib.hid (sortedFunc_any w.heap.size b nn X (w.alloc (.cells #[.map (some b)] 94)) (by simp) (Gr.cell_new rfl rfl) (hs.went hb) hnn M hM hML)
  have K := Lib.hid (keys_any b w)
  clear hs
  go_enter Try.func64, Try.ntmps64
  go_wp2_with (first
    | (go_at_call 78; refine K.out.mono ?_; rintro e w1 ⟨rfl, rfl⟩)
    | (go_at_call 77; refine S.out.mono ?_; rintro e w2 ⟨Y, a, c, rfl, h1, h2, h3⟩; have H1 := Lib.hid h1; have H2 := Lib.hid h2; have H3 := Lib.hid h3; clear h1 h2 h3))
  go_ret
  exact ⟨Y, a, c, rfl, H1.out, H2.out.mono (by simp), hb.trans (H3.out.mono (by simp))⟩

end Go.Proofs.Ytjjmoonajijnmaa.Im
