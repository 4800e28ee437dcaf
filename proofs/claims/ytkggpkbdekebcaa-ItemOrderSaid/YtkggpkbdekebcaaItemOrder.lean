/-
  The walk of the statement on items in another order, and on an item more. No condition.
-/
import Derived.Test.YtkggpkbdekebcaaItemCloses
import Derived.Deep.DeepCutAuto
import Derived.Deep.RegionLaw
namespace Go.Proofs.Ytkggpkbdekebcaa.Im
open Go.RowKit Go.Maps
open Go.Proofs.Ytkggpkbdekebcaa.Gr (Gram Sh gv GAt Bx boxed drawn checkN much_any rcheck_any cell_new cell_old cell_later)
set_option linter.unusedVariables false

theorem build_no_items (w : World) : (Instr.buildSlice 26 0 #[]).run Try.prog w = .ok (.slice (some ⟨w.heap.size, 0, none⟩) 0 0) (w.alloc (.cells #[] 36)) := by kernel_rfl

theorem heap_new (w : World) (o : Obj) : (w.alloc o).heap[w.heap.size]? = some o := World.alloc_heap_new _ _
theorem heap_at {w : World} {o : Obj} {q : Nat} (h : q = w.heap.size) : (w.alloc o).heap[q]? = some o := by
  subst h
  exact heap_new _ _
theorem heap_old {w : World} {o o' : Obj} {q : Nat} (h : w.heap[q]? = some o') : (w.alloc o).heap[q]? = some o' := by
  rw [Below.heap_alloc _ _ _ (Array.getElem?_eq_some_iff.1 h).1]
  exact h
theorem lit_of {w : World} {base q : Nat} {x : Itm} (hq : w.heap[q]? = some (.cells #[.int .i64 x.1, .int .i64 x.2] 36 (0, 0))) (hb : base ≤ q) : w.ownsRow base 36 2 (.slice (some ⟨q, 0, none⟩) 1 1) 1 (ic x) :=
  ⟨by simp [ic], .inr ⟨q, 1, _, rfl, hb, hq, Nat.le_refl _, by unfold maxLen; omega, by simp, by simp [ic]⟩⟩
/-- Behind the closure of the list with an item more. -/
def OneMore (G : Gram) (M : List Itm) (W : World) (s : Value) (wx : World) : Prop := ∃ (E : List Itm) (a : Option Addr) (c : Nat), s = .slice a E.length c ∧ Is E (Clo G M) ∧ ItsA a E wx ∧ Below W.heap.size W wx

/-- Is the item among the first k? -/
def inB (x : Itm) (E : List Itm) (k : Nat) : Bool := decide (x ∈ E.take k)
theorem in_zero (x : Itm) (E : List Itm) : inB x E 0 = false := by simp [inB]
theorem in_hit {x : Itm} {E : List Itm} {k : Nat} (h : inB x E k = true) : inB x E (k + 1) = true := by
  unfold inB at *
  rw [decide_eq_true_iff] at *
  rw [List.take_add_one]
  exact List.mem_append.2 (.inl h)
theorem in_miss {x : Itm} {E : List Itm} {k : Nat} (hk : k < E.length) (h : inB x E k = false) : inB x E (k + 1) = eqB x E[k] := by
  unfold inB eqB at *
  rw [decide_eq_false_iff_not] at h
  rw [List.take_add_one, List.getElem?_eq_getElem hk, decide_eq_decide, List.mem_append, Option.toList_some, List.mem_singleton]
  exact ⟨fun q => q.elim (fun q => absurd q h) id, .inr⟩
theorem in_all {x : Itm} {E : List Itm} (h : x ∈ E) : inB x E E.length = true := by
  unfold inB
  rw [List.take_length, decide_eq_true_iff]
  exact h

set_option maxHeartbeats 8000000 in
set_option maxRecDepth 100000 in
theorem order_law (h : Sh) (G : Gram) (L : List Itm) (a : Option Addr) (c : Nat) (x : Itm) (t : Int) (w : World) (k : GAt h G w) (kl : ItsA a L w) (hw : ∀ x ∈ L, W64 x) (hL : L.length ≤ 8796093022208) (hx : W64 x) (ht : 0 ≤ t ∧ t ≤ 255) (hcap : L.length ≤ c) :
    Calls Try.prog 4 #[gv h G, .slice a L.length c, iv x, .int .u8 t] w (Gr.Is (.bool true) w) := by
  have X := Lib.hid (Bi.start h G x w 25 36)
  have MU := Lib.hid (fun w1 (b : Below w.heap.size w w1) => much_any h G w1 (k.went b))
  have RC := Lib.hid (fun w1 (b : Below w.heap.size w w1) => rcheck_any h G w1 (k.went b))
  have AW := Lib.hid awake_any
  have KG := Lib.hid (fun w1 (b : Below w.heap.size w w1) => k.went b)
  have KL := Lib.hid (fun w1 (b : Below w.heap.size w w1) => kl.went b)
  have HW := Lib.hid hw
  have HX := Lib.hid hx
  clear k kl hw hx
  obtain ⟨xr, xd⟩ := x
  obtain ⟨x0, x1, x2, x3⟩ := X.out.bx.box
  have y0 := X.out.i0
  have y1 := X.out.i1
  unfold gv iv
  dsimp only at y0 y1 ⊢
  go_enter Try.func4, Try.ntmps4
  go_wp2_with fail
  refine (MU.out _ X.out.below).mono ?_
  rintro e w1 ⟨n, rfl, hn, hb⟩
  have X := Lib.hid (X.out.went hb)
  clear hb MU hn x0 x1 x2 x3 y0 y1
  obtain ⟨x0, x1, x2, x3⟩ := X.out.bx.box
  have y0 := X.out.i0
  have y1 := X.out.i1
  dsimp only at y0 y1
  by_cases hn9 : 100 < n
  · go_wp2_with (go_at_call 7; refine (AW.out _).mono ?_; rintro e w2 ⟨rfl, hb⟩; have HB := Lib.hid (Gr.step X.out.below hb); clear hb)
    go_ret
    exact ⟨rfl, HB.out⟩
  by_cases hl9 : 40 < L.length
  · go_wp2_with (go_at_call 7; refine (AW.out _).mono ?_; rintro e w2 ⟨rfl, hb⟩; have HB := Lib.hid (Gr.step X.out.below hb); clear hb)
    go_ret
    exact ⟨rfl, HB.out⟩
  by_cases hl0 : L.length = 0
  · go_wp2_with (go_at_call 7; refine (AW.out _).mono ?_; rintro e w2 ⟨rfl, hb⟩; have HB := Lib.hid (Gr.step X.out.below hb); clear hb)
    go_ret
    exact ⟨rfl, HB.out⟩
  have hl0b : ((L.length : Int) == 0) = false := beq_false_of_ne (by omega)
  go_wp2_with fail
  refine (RC.out _ X.out.below).mono ?_
  rintro e w2 ⟨rfl, hb⟩
  have X := Lib.hid (X.out.went hb)
  clear hb RC x0 x1 x2 x3 y0 y1
  obtain ⟨x0, x1, x2, x3⟩ := X.out.bx.box
  have y0 := X.out.i0
  have y1 := X.out.i1
  dsimp only at y0 y1
  by_cases hv : checkN G = 0
  · rw [hv]
    have CC := Lib.hid (fun w1 b (M : List Itm) (am : Option Addr) (cm : Nat) (hm : ItsA am M w1) (h64 : ∀ x ∈ M, W64 x) (hl : M.length ≤ 2709) => (close_any h G M am cm w1 (KG.out w1 b) hm h64 (by omega)).mono fun e w' q => show ListIs (Clo G M) w1 e w' from q.of (.refl _ _) fun x => ⟨fun q => q.2, fun q => ⟨hv, q⟩⟩)
    clear KG
    unfold gv at CC
    have hbn := build_no_items
    go_wp2_with (go_at_call 8; refine (CC.out _ X.out.below L a c (KL.out _ X.out.below) HW.out (by omega)).mono ?_; rintro e w3 ⟨Cl, ac, cc, rfl, hC, hV, hb⟩; have X3 := Lib.hid (X.out.went hb); have HC := Lib.hid hC; obtain ⟨hcl, hc64⟩ := is_small hv hC (fun x => clo_right); have LC := Lib.hid hV.reads; clear hC hV hb hc64)
    obtain ⟨j, hj, ej⟩ : ∃ j : Nat, j < L.length ∧ t % (L.length : Int) = (j : Int) := by
      have h1 := Int.emod_nonneg t (show (L.length : Int) ≠ 0 by omega)
      have h2 := Int.emod_lt_of_pos t (show (0 : Int) < (L.length : Int) by omega)
      exact ⟨(t % (L.length : Int)).toNat, by omega, by omega⟩
    rw [ej]
    clear ej
    obtain ⟨b0, o0, ea, _⟩ := (KL.out w (.refl _ _)).at 0 (by omega)
    subst ea
    obtain ⟨i0, hi, hz0, hz1, hz2⟩ := info_parts info_item
    have X2 := X
    clear X
    obtain ⟨g0, g1, g2, g3⟩ := X3.out.bx.box
    have HQ := Lib.hid (fun w' (b : Below w3.heap.size w3 w') => (show w'.cell? ⟨w.heap.size, 0, none⟩ = _ ∧ w'.cell? ⟨w.heap.size, 1, none⟩ = _ ∧ w'.cell? ⟨w.heap.size, 2, none⟩ = _ ∧ w'.cell? ⟨w.heap.size, 3, none⟩ = _ from ⟨(X3.out.went b).bx.box.x0, (X3.out.went b).bx.box.x1, (X3.out.went b).bx.box.x2, (X3.out.went b).bx.box.x3⟩))
    have n0 : (0 : Int) ≤ (j : Int) := by omega
    have n1 : (j : Int) ≤ (L.length : Int) := by omega
    have n2 : (j : Int) ≤ (c : Int) := by omega
    have n3 : ¬ c = j := by omega
    have n4 : ¬ c = 0 := by omega
    have n3 : ¬ c = j := by omega
    have n4 : ¬ c = 0 := by omega
    have kA := drawn w3
    have kB0 : Below w3.heap.size w3 (w3.drew.alloc (.cells #[] 36)) := kA.alloc (Nat.le_refl _) _
    have kB1 : Below w3.heap.size w3 (w3.alloc (.cells #[] 36)).drew := ((Below.refl _ _).alloc (Nat.le_refl _) _).drew
    have HO := Lib.hid (show (w3.alloc (.cells #[] 36)).drew.ownsRow w3.heap.size 36 2 (.slice (some ⟨w3.heap.size, 0, none⟩) 0 0) 0 [] from Rw.row_none (World.alloc_heap_new w3 _) (Nat.le_refl _))
    have S1 := Lib.hid (fun w1 (b : Below w3.heap.size w3 w1) => ((KL.out w1 (X3.out.went b).below).drop j).lie)
    have S2 := Lib.hid (fun w1 (b : Below w3.heap.size w3 w1) => ((KL.out w1 (X3.out.went b).below).take j).lie)
    have l1 : ((L.drop j).flatMap ic).length = (L.length - j) * 2 := by rw [its_length, List.length_drop]
    have l2 : ((L.take j).flatMap ic).length = j * 2 := by rw [its_length, List.length_take, Nat.min_eq_left (by omega)]
    have L64 := Lib.hid (show ∀ x ∈ L.drop j ++ L.take j, W64 x from fun x hx => by
      rcases List.mem_append.1 hx with q | q
      · exact HW.out x (List.mem_of_mem_drop q)
      · exact HW.out x (List.mem_of_mem_take q))
    have l3 : (L.drop j ++ L.take j).length ≤ 2709 := by rw [List.length_append, List.length_drop, List.length_take]; omega
    obtain ⟨M, hM⟩ : ∃ M, L.drop j ++ L.take j = M := ⟨_, rfl⟩
    have TM := Lib.hid (fun v wx (h : ItsV 36 w3.heap.size (L.drop j ++ L.take j) v wx) => show ItsV 36 w3.heap.size M v wx from by rw [← hM]; exact h)
    have CM := Lib.hid (fun x => show Clo G M x ↔ Clo G L x from by rw [← hM]; exact clo_turn j x)
    rw [hM] at L64 l3
    clear hM
    clear x0 x1 x2 x3 y0 y1 g0 g1 g2 g3
    go_region_held3 (fun w' => w'.cell? ⟨w.heap.size, 0, none⟩ = some (.slice h.a1 G.terms.length h.c1) ∧ w'.cell? ⟨w.heap.size, 1, none⟩ = some (.slice h.a2 G.nons.length h.c2) ∧ w'.cell? ⟨w.heap.size, 2, none⟩ = some (.slice h.a3 G.rules.length h.c3) ∧ w'.cell? ⟨w.heap.size, 3, none⟩ = some (.int .i64 G.start))
      (exact HQ.out _ (by assumption))
      (first
        | (refine Rw.step_append_lie _ (by rfl) (.tmp 44) (.tmp 47) 26 (by rfl) w3.heap.size 36 i0 (.agg #[.int .i64 0, .int .i64 0]) 2 16 Try.underlying26 hi hz0 hz1 hz2 rfl (by decide) _ 0 [] (by rfl) HO.out (some ⟨b0, o0 + j * 2, none⟩) (L.length - j) (c - j) ((L.drop j).flatMap ic) (by rfl) l1 (S1.out _ kB1).1 (fun e => by cases e) (its_one _) (by unfold maxLen; omega) (by omega) (by simp) ?_
           intro v1 w4 hown1 hg1 _
           have k1 : Below w3.heap.size w3 w4 := kB1.grown hg1 (by simp) (fun q hq => (HO.out.lt q hq).1)
           have HO1 := Lib.hid hown1
           clear hown1 hg1)
        | (refine Rw.step_append_lie _ (by rfl) (.tmp 48) (.tmp 51) 26 (by rfl) w3.heap.size 36 i0 (.agg #[.int .i64 0, .int .i64 0]) 2 16 Try.underlying26 hi hz0 hz1 hz2 rfl (by decide) _ _ _ (by rfl) HO1.out (some ⟨b0, o0, none⟩) j c ((L.take j).flatMap ic) (by rfl) l2 (S2.out _ k1).1 (fun e => by cases e) (its_one _) (by unfold maxLen; omega) (by omega) k1.size ?_
           intro v2 w5 hown2 hg2 _
           have k2 : Below w3.heap.size w3 w5 := k1.grown hg2 k1.size (fun q hq => (HO1.out.lt q hq).1)
           have h5 := TM.out v2 w5 (ItsV.of_append (by simpa using hown2) (by simp) (by simp; omega))
           obtain ⟨a5, c5, rfl, _⟩ := h5.shape
           have H5 := Lib.hid h5.reads
           clear hown2 hg2 h5)
        | (go_at_call 8; refine (CC.out _ (X3.out.went k2).below _ _ _ H5.out L64.out l3).mono ?_; rintro e w6 ⟨Dl, a6, c6, rfl, hD, hV, hb⟩; have k3 : Below w3.heap.size w3 w6 := Gr.step k2 hb; have HD := Lib.hid hD; have LD := Lib.hid hV.reads; clear hD hV hb)
        | fail)
    have X6 := Lib.hid (X3.out.went k3)
    have LC6 := Lib.hid (LC.out.went k3)
    have DC := Lib.hid (show Dl = Cl from (HD.out.iff CM.out).uniq HC.out)
    obtain rfl := DC.out
    clear DC
    clear HQ HO S1 S2 HO1 H5 kA kB0 kB1 k1 k2 k3 X3 LC L64 TM CM l1 l2 l3 HD
    have S1 := Lib.hid (fun w1 (b : Below w6.heap.size w6 w1) => (KL.out w1 (X6.out.went b).below).lie)
    have l1 : (L.flatMap ic).length = L.length * 2 := its_length L
    obtain ⟨M2, hM2⟩ : ∃ M, L ++ [(xr, xd)] = M := ⟨_, rfl⟩
    have TM := Lib.hid (fun v wx (h : ItsV 36 w6.heap.size (L ++ [(xr, xd)]) v wx) => show ItsV 36 w6.heap.size M2 v wx from by rw [← hM2]; exact h)
    have CM := Lib.hid (fun y (q : Clo G L y) => show Clo G M2 y from by rw [← hM2]; exact clo_more q)
    have L64 := Lib.hid (show ∀ y ∈ M2, W64 y from fun y hy => by
      rw [← hM2] at hy
      rcases List.mem_append.1 hy with q | q
      · exact HW.out y q
      · rw [List.mem_singleton] at q
        rw [q]
        exact HX.out)
    have l3 : M2.length ≤ 2709 := by rw [← hM2, List.length_append, List.length_singleton]; omega
    clear hM2
    go_wp2
    go_cut [12] (fun s wx => OneMore G M2 w6 s wx)
    case first =>
      obtain ⟨⟨g0, g1, g2, g3⟩, y0, y1⟩ := (⟨X6.out.bx.box, X6.out.i0, X6.out.i1⟩ : _ ∧ _ ∧ _)
      dsimp only at y0 y1
      have hq1 : w.heap.size + 1 < w6.heap.size := World.block_lt_of_cell? w6 ⟨w.heap.size + 1, 0, none⟩ y0
      have hq0 : w.heap.size < w6.heap.size := by omega
      have hsW : w6.drew.heap.size = w6.heap.size := rfl
      have ONE := Lib.hid (show ∀ u ∈ ic (xr, xd), u.oneCell' = true from fun u hu => by simp only [ic, List.mem_cons, List.not_mem_nil, or_false] at hu; rcases hu with rfl | rfl <;> rfl)
      go_region_law (first
        | (refine Rw.step_append_lie _ (by rfl) (.tmp 55) (.tmp 56) 26 (by rfl) w6.heap.size 36 i0 (.agg #[.int .i64 0, .int .i64 0]) 2 16 Try.underlying26 hi hz0 hz1 hz2 rfl (by decide) _ 0 [] (by rfl) (Rw.row_none (by first | exact heap_new _ _ | exact heap_at (by simp) | exact heap_old (heap_new _ _)) (by first | exact Nat.le_refl _ | (simp; done) | (simp; omega))) (some ⟨b0, o0, none⟩) L.length c (L.flatMap ic) (by rfl) l1 (S1.out _ (by first | exact Gr.step (boxed _ _) (drawn _) | exact Gr.step (drawn _) (boxed _ _) | exact Gr.step (Gr.step (boxed _ _) (drawn _)) (boxed _ _) | exact Gr.step (Gr.step (boxed _ _) (boxed _ _)) (drawn _) | exact Gr.step (Gr.step (drawn _) (boxed _ _)) (boxed _ _))).1 (fun e => by cases e) (its_one _) (by unfold maxLen; omega) (by omega) (by first | (simp; done) | (simp; omega)) ?_
           intro v7 w7 hown4 hg4 _
           obtain ⟨a7, c7, rfl⟩ := Rw.row_shape hown4
           rw [Nat.zero_add] at hown4 ⊢
           have K4 := Lib.hid (show Below w6.heap.size w6 w7 from Below.grown (by first | exact Gr.step (boxed _ _) (drawn _) | exact Gr.step (drawn _) (boxed _ _) | exact Gr.step (Gr.step (boxed _ _) (drawn _)) (boxed _ _) | exact Gr.step (Gr.step (boxed _ _) (boxed _ _)) (drawn _) | exact Gr.step (Gr.step (drawn _) (boxed _ _)) (boxed _ _)) hg4 (Below.size (by first | exact Gr.step (boxed _ _) (drawn _) | exact Gr.step (drawn _) (boxed _ _) | exact Gr.step (Gr.step (boxed _ _) (drawn _)) (boxed _ _) | exact Gr.step (Gr.step (boxed _ _) (boxed _ _)) (drawn _) | exact Gr.step (Gr.step (drawn _) (boxed _ _)) (boxed _ _))) (fun k hk => by simp [Value.ownBlock] at hk; omega))
           have O4 := Lib.hid (show w7.ownsRow w6.heap.size 36 2 (.slice a7 L.length c7) L.length (L.flatMap ic) from hown4)
           (first
             | (have RB4 := Lib.hid (show w7.heap[w6.heap.size + 1]? = some (.cells #[.int .i64 xr, .int .i64 xd] 36 (0, 0)) from (hg4.block _ (by simp) (by simp [Value.ownBlock])).trans (by first | exact heap_at (by simp) | exact heap_at rfl)))
             | (have RB4 := Lib.hid (show w7.heap[w6.heap.size]? = some (.cells #[.int .i64 xr, .int .i64 xd] 36 (0, 0)) from (hg4.block _ (by simp; try omega) (by simp [Value.ownBlock])).trans (by first | exact heap_old (heap_at rfl) | exact heap_old (heap_new _ _))))
             | skip)
           have hs4 := K4.out.size
           obtain ⟨⟨g0, g1, g2, g3⟩, y0, y1⟩ := (⟨(X6.out.went K4.out).bx.box, (X6.out.went K4.out).i0, (X6.out.went K4.out).i1⟩ : _ ∧ _ ∧ _)
           dsimp only at y0 y1
           have hq04 : w.heap.size < w7.heap.size := World.block_lt_of_cell? w7 ⟨w.heap.size, 0, none⟩ g0
           have hq14 : w.heap.size + 1 < w7.heap.size := World.block_lt_of_cell? w7 ⟨w.heap.size + 1, 0, none⟩ y0
           clear hown4 hg4)
        | (refine Rw.step_append_rows _ (by rfl) (.tmp 57) (.tmp 59) 26 (by rfl) w6.heap.size 36 i0 (.agg #[.int .i64 0, .int .i64 0]) 2 16 Try.underlying26 hi hz0 hz1 hz2 rfl (by decide) (.slice a7 L.length c7) L.length (L.flatMap ic) (by rfl) (by first | exact O4.out | exact Sep.ownsRow_at O4.out fun g hg => Below.heap_alloc _ _ _ (O4.out.lt g hg).2) w6.heap.size (.slice (some ⟨w6.heap.size + 1, 0, none⟩) 1 1) 1 (ic (xr, xd)) (by rfl) (lit_of (x := (xr, xd)) RB4.out (by omega)) ONE.out (by unfold maxLen; omega) (by omega) (by first | exact K4.out.size | exact (Gr.step K4.out (boxed _ _)).size) ?_
           intro v8 w8 hown2 hg2 _
           have K5 := Lib.hid (show Below w6.heap.size w6 w8 from Below.grown (w := _) (by first | exact K4.out | exact Gr.step K4.out (boxed _ _)) hg2 (by first | exact K4.out.size | exact (Gr.step K4.out (boxed _ _)).size) (fun k hk => (O4.out.lt k hk).1))
           have h5 := TM.out v8 w8 (ItsV.of_append (X := L) (Y := [(xr, xd)]) (n := L.length) (m := 1) (by simpa [List.flatMap_cons] using hown2) rfl rfl)
           obtain ⟨a8, c8, rfl, _⟩ := h5.shape
           have H5 := Lib.hid h5.reads
           have C5 := Lib.hid (CC.out _ (X6.out.went K5.out).below _ a8 c8 H5.out L64.out l3)
           obtain ⟨⟨g0, g1, g2, g3⟩, y0, y1⟩ := (⟨(X6.out.went K5.out).bx.box, (X6.out.went K5.out).i0, (X6.out.went K5.out).i1⟩ : _ ∧ _ ∧ _)
           clear hown2 hg2 h5)
        | (refine Rw.step_append_rows _ (by rfl) (.tmp 57) (.tmp 59) 26 (by rfl) w6.heap.size 36 i0 (.agg #[.int .i64 0, .int .i64 0]) 2 16 Try.underlying26 hi hz0 hz1 hz2 rfl (by decide) (.slice a7 L.length c7) L.length (L.flatMap ic) (by rfl) (by first | exact O4.out | exact Sep.ownsRow_at O4.out fun g hg => Below.heap_alloc _ _ _ (O4.out.lt g hg).2) w6.heap.size (.slice (some ⟨w6.heap.size, 0, none⟩) 1 1) 1 (ic (xr, xd)) (by rfl) (lit_of (x := (xr, xd)) RB4.out (by omega)) ONE.out (by unfold maxLen; omega) (by omega) (by first | exact K4.out.size | exact (Gr.step K4.out (boxed _ _)).size) ?_
           intro v8 w8 hown2 hg2 _
           have K5 := Lib.hid (show Below w6.heap.size w6 w8 from Below.grown (w := _) (by first | exact K4.out | exact Gr.step K4.out (boxed _ _)) hg2 (by first | exact K4.out.size | exact (Gr.step K4.out (boxed _ _)).size) (fun k hk => (O4.out.lt k hk).1))
           have h5 := TM.out v8 w8 (ItsV.of_append (X := L) (Y := [(xr, xd)]) (n := L.length) (m := 1) (by simpa [List.flatMap_cons] using hown2) rfl rfl)
           obtain ⟨a8, c8, rfl, _⟩ := h5.shape
           have H5 := Lib.hid h5.reads
           have C5 := Lib.hid (CC.out _ (X6.out.went K5.out).below _ a8 c8 H5.out L64.out l3)
           obtain ⟨⟨g0, g1, g2, g3⟩, y0, y1⟩ := (⟨(X6.out.went K5.out).bx.box, (X6.out.went K5.out).i0, (X6.out.went K5.out).i1⟩ : _ ∧ _ ∧ _)
           clear hown2 hg2 h5)
        | (refine Rw.step_append_rows _ (by rfl) (.tmp 57) (.tmp 59) 26 (by rfl) w6.heap.size 36 i0 (.agg #[.int .i64 0, .int .i64 0]) 2 16 Try.underlying26 hi hz0 hz1 hz2 rfl (by decide) (.slice a7 L.length c7) L.length (L.flatMap ic) (by rfl) (by first | exact O4.out | exact Sep.ownsRow_at O4.out fun g hg => Below.heap_alloc _ _ _ (O4.out.lt g hg).2) w6.heap.size (.slice (some ⟨w7.heap.size, 0, none⟩) 1 1) 1 (ic (xr, xd)) (by rfl) (lit_of (x := (xr, xd)) (heap_new _ _) (by omega)) ONE.out (by unfold maxLen; omega) (by omega) (by first | exact K4.out.size | exact (Gr.step K4.out (boxed _ _)).size) ?_
           intro v8 w8 hown2 hg2 _
           have K5 := Lib.hid (show Below w6.heap.size w6 w8 from Below.grown (w := _) (by first | exact K4.out | exact Gr.step K4.out (boxed _ _)) hg2 (by first | exact K4.out.size | exact (Gr.step K4.out (boxed _ _)).size) (fun k hk => (O4.out.lt k hk).1))
           have h5 := TM.out v8 w8 (ItsV.of_append (X := L) (Y := [(xr, xd)]) (n := L.length) (m := 1) (by simpa [List.flatMap_cons] using hown2) rfl rfl)
           obtain ⟨a8, c8, rfl, _⟩ := h5.shape
           have H5 := Lib.hid h5.reads
           have C5 := Lib.hid (CC.out _ (X6.out.went K5.out).below _ a8 c8 H5.out L64.out l3)
           obtain ⟨⟨g0, g1, g2, g3⟩, y0, y1⟩ := (⟨(X6.out.went K5.out).bx.box, (X6.out.went K5.out).i0, (X6.out.went K5.out).i1⟩ : _ ∧ _ ∧ _)
           clear hown2 hg2 h5)
        | (go_simp; go_at_call 8; (with_reducible refine C5.out.mono ?_); rintro e w9 ⟨El, a9, c9, rfl, hE, hV, hb⟩; have K9 := Lib.hid (show Below w6.heap.size w6 w9 from Gr.step K5.out hb); have HE := Lib.hid hE; have LE := Lib.hid hV.reads; clear hE hV hb)
        | fail)
      all_goals
        go_wp2
        go_meet
        case rel => exact ⟨El, a9, c9, rfl, HE.out, LE.out, K9.out⟩
    case rest =>
      obtain ⟨El, a9, c9, rfl, hE, hLE, hB9⟩ := hcut
      have LA := Lib.hid (LC6.out.went hB9)
      have LB := Lib.hid (LD.out.went hB9)
      have LE := Lib.hid hLE
      have B9 := Lib.hid ((X6.out.went hB9).below)
      have SUB := Lib.hid (show ∀ i (h : i < Dl.length), Dl[i] ∈ El from fun i hi => (hE.2 _).2 (CM.out _ ((HC.out.2 _).1 (List.getElem_mem hi))))
      have hel := (is_small hv hE fun x => clo_right).1
      have heq := eq_items
      have hgd := Try.eqGuardType36
      have mixed : Try.prog.follows .mixedOrders = true := by kernel_rfl
      clear LC6 LD hLE X6 hE hB9 CM HC TM L64 S1 CC KL HW HX hbn
      go_wp2
      go_loopw [13, 14, 15] (fun i _ _ wr => ∃ q : Nat, i = .int .i64 q ∧ q ≤ Dl.length ∧ Below wc.heap.size wc wr) (fun i _ _ _ => Dl.length - (intOf i).toNat)
      case atStart => exact ⟨0, rfl, Nat.zero_le _, .refl _ _⟩
      case round =>
        obtain ⟨q, rfl, hq, hB⟩ := hrel
        by_cases hlt : q < Dl.length
        · have SU := Lib.hid (SUB.out q hlt)
          obtain ⟨b1, o1, ea, p0, p1⟩ := (LA.out.went hB).at q hlt
          have e1 : ((Dl[q].1, Dl[q].2) : Itm) = Dl[q] := rfl
          generalize Dl[q] = x at SU p0 p1 e1
          obtain ⟨x0, x1⟩ := x
          dsimp only at p0 p1
          clear e1
          have P0 := Lib.hid (fun w1 (b : Below wr.heap.size wr w1) => cell_later b p0)
          have P1 := Lib.hid (fun w1 (b : Below wr.heap.size wr w1) => cell_later b p1)
          clear p0 p1
          subst ea
          go_wp2
          go_loopw [14, 15] (fun t k wr2 => ∃ m : Nat, k = .int .i64 m ∧ m ≤ El.length ∧ t = .bool (inB (x0, x1) El m) ∧ Below wr.heap.size wr wr2) (fun _ k _ => El.length - (intOf k).toNat)
          case atStart => exact ⟨0, rfl, Nat.zero_le _, by rw [in_zero], .refl _ _⟩
          case round =>
            obtain ⟨m, rfl, hm, rfl, hB2⟩ := hrel
            have BB := Lib.hid (Gr.step hB hB2)
            by_cases hl2 : m < El.length
            · obtain ⟨b2, o2, ea, q0, q1⟩ := (LE.out.went BB.out).at m hl2
              have p0 := P0.out _ hB2
              have p1 := P1.out _ hB2
              have HM := Lib.hid (fun h => in_miss (x := (x0, x1)) hl2 h)
              have e1 : ((El[m].1, El[m].2) : Itm) = El[m] := rfl
              generalize El[m] = y at q0 q1 e1 HM
              obtain ⟨y0, y1⟩ := y
              dsimp only at q0 q1
              clear e1
              subst ea
              cases hin : inB (x0, x1) El m with
              | true =>
                have HT := Lib.hid (in_hit hin)
                clear hin HM
                go_wp2
                go_quiet (fail)
                have hb3 := hB2.trans (c := wr.drewN nq) ⟨rfl, rfl, rfl, Nat.le_refl _, fun _ _ => rfl⟩
                generalize wr.drewN nq = w4 at hb3 ⊢
                clear p0 p1 q0 q1
                go_wp2
                go_roundw
                case rel => exact ⟨m + 1, by go_num, by omega, by rw [HT.out], hb3⟩
                case measure => simp [intOf]; omega
              | false =>
                have HT := Lib.hid (HM.out hin)
                clear hin HM
                go_wp2
                go_quiet (fail)
                have hb3 := hB2.trans (c := wr.drewN nq) ⟨rfl, rfl, rfl, Nat.le_refl _, fun _ _ => rfl⟩
                generalize wr.drewN nq = w4 at hb3 ⊢
                clear p0 p1 q0 q1 heq
                go_wp2
                go_roundw
                case rel => exact ⟨m + 1, by go_num, by omega, by rw [HT.out], hb3⟩
                case measure => simp [intOf]; omega
            · have hE : m = El.length := by omega
              subst hE
              have hia := in_all SU.out
              rw [hia]
              go_wp2
              go_roundw
              case rel => exact ⟨q + 1, by go_num, by omega, BB.out⟩
              case measure => simp [intOf]; omega
        · have SS := Lib.hid (fun w1 (b : Below wc.heap.size wc w1) => same_self Dl ac a6 cc c6 w1 (LA.out.went b) (LB.out.went b) hcl)
          go_wp2_with (first
            | (go_at_call 10; refine (SS.out _ hB).mono ?_; rintro e v1 ⟨rfl, hb⟩; have k1 := Lib.hid (Gr.step B9.out (Gr.step hB hb)); clear hb)
            | (go_at_call 7; refine (AW.out _).mono ?_; rintro e v2 ⟨rfl, hb⟩; have k2 := Lib.hid (Gr.step k1.out hb); clear hb))
          go_ret
          exact ⟨rfl, k2.out⟩
  · have hvb : (checkN G != 0) = true := by simpa using hv
    go_wp2_with (go_at_call 7; refine (AW.out _).mono ?_; rintro e w2 ⟨rfl, hb⟩; have HB := Lib.hid (Gr.step X.out.below hb); clear hb)
    go_ret
    exact ⟨rfl, HB.out⟩

end Go.Proofs.Ytkggpkbdekebcaa.Im
