/-
  Package arena: Leaves and Yield.
-/
import Derived.Test.YtoohnkffclkmhaaArenaLeaves
namespace Go.Proofs.Ytoohnkffclkmhaa.Tr
open Go.RowKit Go.Maps Go.Shelf
open Go.Proofs.Ytoohnkffclkmhaa.Sep
open Go.Proofs.Ytoohnkffclkmhaa.Rg
open Go.Proofs.Ytoohnkffclkmhaa.Rw (Bk)
open Go.Proofs.Ytoohnkffclkmhaa.Gr (cell_later boxed drawn Is bool_of int_of ivs iv Listed New info_int)
attribute [local go_sem] Oper.semAt_some
set_option linter.unusedVariables false
set_option linter.unusedSimpArgs false

/-- What is told of the leaves. -/
def lefL (T : List Nd) (f : Nd → Int) (i : Int) : List Int := (lefI T i).map fun y => f (ndAt T y.1)
/-- What holds between two rounds: the list so far, in its box. -/
def intI (base bs : Nat) (A : List Int) (k : Nat) (S' : Nat → Prop) (W : World) : Prop :=
  ∃ v, S' = (fun x => x = bs ∨ v.ownBlock = some x) ∧ W.heap[bs]? = some (.cells #[v] 25 (0, 0)) ∧ W.ownsRow base 3 1 v k (ivs (A.take k)) ∧ v.ownBlock ≠ some bs
theorem intI_holds (B base bs : Nat) (A : List Int) : Holds B (intI base bs A) := by
  rintro k S' T A1 A' ⟨v, rfl, h1, h2, h3⟩ hi hf hT
  exact ⟨v, rfl, fr_kept hf h1 fun h => (hT _ h).2 (.inl rfl), ownsRow_at h2 fun g hg => hf.block g (World.ownsRow.lt h2 g hg).2 fun h => (hT _ h).2 (.inr hg), h3⟩
theorem lef_few {T : List Nd} {i : Int} (h : (visI T i).length ≤ 1000000) : (lefI T i).length ≤ 1000000 := by
  refine Nat.le_trans (List.length_filter_le _ _) (Nat.le_trans (List.length_filter_le _ _) h)

set_option maxHeartbeats 8000000 in
set_option maxRecDepth 100000 in
theorem leaves_any (pv : Value) (S0 K : Nat → Prop) (L : List Nv) (i : Int) (w : World) (h : TrO pv S0 K L w) (hw : Wf (L.map Prod.fst)) (hfi : Gr.Fits i) (hN : (visI (L.map Prod.fst) i).length ≤ 1000000) :
    Calls Try.prog 9 #[pv, .int .i64 i] w (Listed (lefL (L.map Prod.fst) (fun n => n.leaf) i) w) := by
  obtain ⟨i0, hj, hz0, hz1, hz2⟩ := info_parts info_int
  obtain ⟨pa, rfl⟩ := h.ptr
  obtain ⟨V, hV⟩ : ∃ V, V = lefI (L.map Prod.fst) i := ⟨_, rfl⟩
  have hVl : ∀ y ∈ V, y.1 < L.length := fun y hy => by have := lefI_lt hw y (hV ▸ hy); simpa using this
  have ND := Lib.hid (fun (j : Nat) (hjl : j < L.length) => h.node hjl)
  obtain ⟨A, hA⟩ : ∃ A, A = lefL (L.map Prod.fst) (fun n => n.leaf) i := ⟨_, rfl⟩
  have hAl : A.length = V.length := by rw [hA, hV]; simp [lefL]
  have hVf : V.length ≤ 1000000 := hV ▸ lef_few hN
  have AT := Lib.hid (show ∀ (k : Nat) (y : Nat × Bool) (n : Nd) (v : Value) (hjl : y.1 < L.length), V[k]? = some y → L[y.1] = (n, v) → A.take (k + 1) = A.take k ++ [n.leaf] from fun k y n v hjl hy hn => by
    refine take_snoc ?_
    rw [hA, lefL, ← hV, List.getElem?_map, hy, Option.map_some, ndAt_get (by simpa using hjl), List.getElem_map, hn])
  -- the boxes, the iterator
  have NX := Lib.hid (show ∀ w2, w2 = ((w.alloc (.cells #[.slice none 0 0] 25)).alloc (.cells #[.pointer pa] 23)).alloc (.cells #[.int .i64 i] 3) →
      Rg.Yields Try.prog 33 #[.pointer (some ⟨w.heap.size + 1, 0, none⟩), .pointer (some ⟨w.heap.size + 1 + 1, 0, none⟩)] (encN L V) V.length (oW S0 K (w.heap.size + 1) (w.heap.size + 1 + 1)) w2 ∧ w.heap.size + 3 = w2.heap.size ∧
      Off (fun x => x = w.heap.size ∨ (Value.slice none 0 0).ownBlock = some x) (oW S0 K (w.heap.size + 1) (w.heap.size + 1 + 1)) ∧ Inn (oW S0 K (w.heap.size + 1) (w.heap.size + 1 + 1)) w2 ∧ Inn (fun x => x = w.heap.size ∨ (Value.slice none 0 0).ownBlock = some x) w2 ∧
      intI w.heap.size w.heap.size A 0 (fun x => x = w.heap.size ∨ (Value.slice none 0 0).ownBlock = some x) w2 ∧ Below w.heap.size w w2 from by
    rintro w2 rfl
    have b0 := boxed w (.cells #[.slice none 0 0] 25)
    have b1 := boxed (w.alloc (.cells #[.slice none 0 0] 25)) (.cells #[.pointer pa] 23)
    have b2 := boxed ((w.alloc (.cells #[.slice none 0 0] 25)).alloc (.cells #[.pointer pa] 23)) (.cells #[.int .i64 i] 3)
    have b3 := Gr.step (Gr.step b0 b1) b2
    have e0 := (Gr.step b1 b2).block w.heap.size (by simp)
    have e1 : (((w.alloc (.cells #[.slice none 0 0] 25)).alloc (.cells #[.pointer pa] 23)).alloc (.cells #[.int .i64 i] 3)).heap[w.heap.size + 1]? = some (.cells #[.pointer pa] 23 (0, 0)) := by
      have := World.alloc_heap_new (w.alloc (.cells #[.slice none 0 0] 25)) (.cells #[.pointer pa] 23)
      rw [World.size_alloc] at this
      exact (b2.block _ (by simp)).trans this
    have e2 : (((w.alloc (.cells #[.slice none 0 0] 25)).alloc (.cells #[.pointer pa] 23)).alloc (.cells #[.int .i64 i] 3)).heap[w.heap.size + 1 + 1]? = some (.cells #[.int .i64 i] 3 (0, 0)) := by
      have := World.alloc_heap_new ((w.alloc (.cells #[.slice none 0 0] 25)).alloc (.cells #[.pointer pa] 23)) (.cells #[.int .i64 i] 3)
      rwa [World.size_alloc, World.size_alloc] at this
    have hsz : (((w.alloc (.cells #[.slice none 0 0] 25)).alloc (.cells #[.pointer pa] 23)).alloc (.cells #[.int .i64 i] 3)).heap.size = w.heap.size + 3 := by simp
    have hno : (Value.slice none 0 0).ownBlock = Option.none := rfl
    refine ⟨?_, hsz.symm, ?_, ?_, ?_, ⟨.slice none 0 0, rfl, e0.trans (World.alloc_heap_new _ _), World.ownsRow_nil _ _ _ _, by rw [hno]; exact fun e => nomatch e⟩, b3⟩
    · rw [hV]
      exact leaves_yields (.pointer pa) S0 K L i _ _ _ (h.went b3) hw hfi e1 e2 hN
    · rintro x (rfl | e) ho
      · rcases ho with ho | ho | ho | ho
        · have := h.inn.1 _ ho
          omega
        · have := h.inn.2 _ ho
          omega
        · omega
        · omega
      · rw [hno] at e
        cases e
    · rintro x (hx | hx | rfl | rfl)
      · have := h.inn.1 x hx
        omega
      · have := h.inn.2 x hx
        omega
      · omega
      · omega
    · rintro x (rfl | e)
      · omega
      · rw [hno] at e
        cases e)
  have LA := Lib.hid (leaves0_any pa i (w.alloc (.cells #[.slice none 0 0] 25)))
  rw [← hA]
  clear h hV hA
  refine (callsIn_wide (n := 9)).1 ?_
  refine callsIn_of_wp_marks Try.func9 rfl trivial ?_ rfl
  simp only [Try.ntmps9, List.size_toArray, List.length_cons, List.length_nil, Nat.reduceAdd, Nat.reduceSub, Array.replicate_succ, Array.replicate_zero, List.push_toArray, List.append_toArray, List.nil_append, List.cons_append]
  gi_wp2_with (refine ⟨trivial, ?_⟩; gi_at_call 21; refine (calls_any LA.out).mono ?_; rintro e w2 ⟨rfl, hw2⟩; have X2 := Lib.hid (NX.out w2 hw2); clear hw2)
  clear NX LA
  obtain ⟨hyl, hsz, hoff, hoi, his, hri, hbl⟩ := X2.out
  have HS2 := Lib.hid hsz
  have HB2 := Lib.hid hbl
  refine range_law (n := 9) (gf := 33) (lb := #[.pointer (some ⟨w.heap.size + 1, 0, none⟩), .pointer (some ⟨w.heap.size + 1 + 1, 0, none⟩)]) rfl (enters_of Try.func33 (by kernel_rfl) rfl) (encs := encN L V) hyl (fun _ => rfl)
    (intI w.heap.size w.heap.size A) (fun _ _ _ _ => False) (intI_holds _ _ _ _) (fun _ _ _ _ _ _ h _ _ _ => h) _ (fun _ => False) hoff hoi his (fun _ h => h.elim) hri ?round ?done ?stop
  case stop =>
    rintro c k S' W hk h
    exact h.elim
  case done =>
    rintro S' W ⟨v', rfl, h1, h2, h3⟩ hin he hf hD hnD
    obtain ⟨a', c', rfl⟩ := Rw.row_shape h2
    have c1 := cells_of h1 (k := 0) (by simp)
    have EN := Lib.hid (show ∀ w', Fr (fun x => x ∈ [w2.heap.size]) W w' → Listed A w (.returned (.slice a' V.length c')) w' from fun w' hf' => by
      rw [List.take_of_length_le (Nat.le_of_eq hAl)] at h2
      have h4 : w'.ownsRow w.heap.size 3 1 (.slice a' V.length c') V.length (ivs A) := ownsRow_at h2 fun b e => hf'.block b (World.ownsRow.lt h2 b e).2 fun e2 => by
        rw [List.mem_singleton] at e2
        exact hnD (.inr (by rw [← e2]; exact e))
      rw [← hAl] at h4 ⊢
      refine ⟨a', c', rfl, .of_row h4, Gr.row_new h4 (Nat.le_refl _), ?_⟩
      refine HB2.out.trans ?_
      have f2 : Fr (fun x => w.heap.size ≤ x) w2 W := hf.mono fun x hx => hx.elim (fun e => Nat.le_of_eq e.symm) fun e => by cases e
      have f3 : Fr (fun x => w.heap.size ≤ x) W w' := hf'.mono fun x hx => by
        rw [List.mem_singleton] at hx
        subst hx
        show w.heap.size ≤ w2.heap.size
        omega
      exact (f2.trans f3 (.refl _ _)).below (fun _ h => h) (by omega))
    have LM := Lib.hid (show ∀ (fn : Func) (tmps : Array Value) (R : Ending → World → Prop), (∀ w', Fr (fun x => x ∈ [w2.heap.size]) W w' → ∃ v, (results fn tmps).run Try.prog w' = .ok v w' ∧ R (.returned v) w') → LeavesInM Fence.wide 9 Try.prog fn tmps R [{ target := .collected w2.heap.size, args := #[] }] .returning W from
      fun fn tmps R hR => leaves_marks [w2.heap.size] W (by simp) (fun D hD' => by rw [List.mem_singleton] at hD'; subst hD'; exact hD) hR)
    clear h1 h2 h3 hin he hf hD hnD hyl hsz hoff hoi his hri hbl X2
    gi_wp2
    refine LM.out _ _ _ ?_
    intro w' hf
    refine ⟨_, results_tmp rfl _ _ _, ?_⟩
    exact EN.out w' hf
  case round =>
    rintro l k S' W hk hl hl2 hnl ⟨v', rfl, h1, h2, h3⟩ hin he hf
    obtain ⟨a', c', rfl⟩ := Rw.row_shape h2
    obtain ⟨y, hy⟩ : ∃ x, V[k]? = some x := ⟨_, List.getElem?_eq_getElem hk⟩
    have hjl := hVl y (List.mem_of_getElem? hy)
    obtain ⟨n, a2, c3, hnd⟩ := ND.out y.1 hjl
    have AK := Lib.hid (AT.out k y n _ hjl hy hnd)
    have e1 : V.getD k (0, false) = y := by rw [List.getD_eq_getElem?_getD, hy]; rfl
    have e2 : L.getD y.1 nv0 = (n, .slice a2 n.kids.length c3) := by rw [List.getD_eq_getElem?_getD, List.getElem?_eq_getElem hjl, ← hnd]; rfl
    unfold encN
    rw [e1, e2]
    unfold ndv
    dsimp only
    have hbs : w.heap.size < W.heap.size := (Array.getElem?_eq_some_iff.1 h1).1
    have hlb : w.heap.size ≠ l := fun e => hnl (.inl e.symm)
    have EX := Lib.hid (show ∀ w2, Fr (fun x => x = l) (W.alloc (.cells #[.int .i64 n.sym, .int .i64 n.leaf, .int .i64 n.rule, .slice a2 n.kids.length c3, .bool n.inner, .bool n.taken] 51)) w2 → w2.heap[w.heap.size]? = some (.cells #[.slice a' k c'] 25 (0, 0)) ∧ w2.ownsRow w.heap.size 3 1 (.slice a' k c') k (ivs (A.take k)) ∧
        Bk W.heap.size #[.int .i64 n.sym, .int .i64 n.leaf, .int .i64 n.rule, .slice a2 n.kids.length c3, .bool n.inner, .bool n.taken] 51 w2 from fun w2 h => by
      have b1 := boxed W (.cells #[.int .i64 n.sym, .int .i64 n.leaf, .int .i64 n.rule, .slice a2 n.kids.length c3, .bool n.inner, .bool n.taken] 51)
      refine ⟨fr_kept h ((b1.block _ hbs).trans h1) hlb, ownsRow_at h2 fun b e => ?_, (Bk.new W _ _ _ rfl).fr h (by omega)⟩
      have hb := (World.ownsRow.lt h2 b e).2
      exact (h.block b (Nat.lt_of_lt_of_le hb b1.size) fun e2 => hnl (.inr (by rw [← e2]; exact e))).trans (b1.block b hb))
    have NE := Lib.hid h3
    clear h1 h2 h3 hin hyl hsz hoff hoi his hri hbl X2 e1 e2
    gi_wp2
    refine ⟨(Fr.refl _ W).alloc _, fun w4 hw4 hs4 => ?_⟩
    obtain ⟨e1, e3, q4⟩ := EX.out w4 hw4
    have c1 := cells_of e1 (k := 0) (by simp)
    have d0 := q4.cell (j := 0) rfl
    have d1 := q4.cell (j := 1) rfl
    have b3 := boxed w4 (.cells #[.int .i64 n.leaf] 3)
    have R3 := Lib.hid (ownsRow_at e3 (w' := w4.alloc (.cells #[.int .i64 n.leaf] 3)) fun b e => b3.block b (World.ownsRow.lt e3 b e).2)
    have hws : w.heap.size ≤ w4.heap.size := by have := (World.ownsRow.lt e3); omega
    have ON := Lib.hid (show (w4.alloc (.cells #[.int .i64 n.leaf] 3)).ownsRow w.heap.size 3 1 (.slice (some ⟨w4.heap.size, 0, none⟩) 1 1) 1 [.int .i64 n.leaf] from
      World.ownsRow_lit w4 #[.int .i64 n.leaf] 1 hws (by decide) (by simp))
    have hb4 : w.heap.size ≤ (w4.alloc (.cells #[.int .i64 n.leaf] 3)).heap.size := by rw [World.size_alloc]; omega
    have BX := Lib.hid (show ∀ w5, (w4.alloc (.cells #[.int .i64 n.leaf] 3)).grownBy w5 (Value.slice a' k c').ownBlock → w5.heap[w.heap.size]? = some (.cells #[.slice a' k c'] 25 (0, 0)) from
      fun w5 hg => (hg.block _ (by rw [World.size_alloc]; omega) fun e => NE.out e.symm).trans ((b3.block _ (by omega)).trans e1))
    have B3 := Lib.hid b3
    have HS := Lib.hid hs4
    clear e1 e3 EX b3 hs4 q4
    gi_wp2_with (gi_at_builtin; refine wpListIn_append_rows _ rfl _ _ 25 rfl w.heap.size 3 i0 (.int .i64 0) 1 8 Try.underlying25 hj hz0 hz1 hz2 rfl (by decide) (.slice a' k c') k (ivs (A.take k)) rfl R3.out w.heap.size (.slice (some ⟨w4.heap.size, 0, none⟩) 1 1) 1 [.int .i64 n.leaf] rfl ON.out (by simp [Value.oneCell']) (by unfold maxLen; omega) (by omega) hb4 ?_; intro v5 w5 hown5 hg5 hloc5; have B5 := BX.out w5 hg5; have c2 := cells_of B5 (k := 0) (by simp); have f2 : w5.frozen? ⟨w.heap.size, 0, none⟩ = false := free_of B5; have W5 := Lib.hid hown5; have G5 := Lib.hid hg5; have L5 := Lib.hid hloc5; obtain ⟨a5, c5, rfl⟩ := Rw.row_shape hown5; clear hown5 hg5 hloc5)
    have hs4 := HS.out
    have h5b := BX.out w5 G5.out
    have hbs5 : w.heap.size < w5.heap.size := (Array.getElem?_eq_some_iff.1 h5b).1
    have hnb : ∀ x, (Value.slice a5 (k + 1) c5).ownBlock = some x → x = w.heap.size → False := fun x e e2 => by
      rcases L5.out with h | h
      · rw [h, e2] at e
        exact NE.out e
      · rw [e] at h
        injection h with h
        rw [World.size_alloc] at h
        omega
    have gs := Rg.grown_set w5 w.heap.size 0 (.slice a5 (k + 1) c5)
    refine ⟨fun x => x = w.heap.size ∨ (Value.slice a5 (k + 1) c5).ownBlock = some x, ?_, ?_, ?_, .slice a5 (k + 1) c5, rfl, set_heap h5b _, ?_, fun e => hnb _ e rfl⟩
    · rintro x (hx | hx)
      · exact .inl (.inl hx)
      · rcases L5.out with h | h
        · exact .inl (.inr (by rw [← h]; exact hx))
        · rw [hx] at h
          injection h with h
          rw [World.size_alloc] at h
          exact .inr (by omega)
    · have f1 : Fr (fun x => (x = w.heap.size ∨ (Value.slice a' k c').ownBlock = some x) ∨ W.heap.size ≤ x) w4 w5 := ((Fr.of_below B3.out).grown G5.out fun x e => .inl (.inl (.inr e)))
      exact f1.setCell ⟨w.heap.size, 0, none⟩ (.inl (.inl rfl)) _
    · rintro x (rfl | hx)
      · exact Nat.lt_of_lt_of_le hbs5 gs.size
      · exact Nat.lt_of_lt_of_le (World.ownsRow.lt W5.out x hx).2 gs.size
    · rw [AK.out, show ivs (A.take k ++ [n.leaf]) = ivs (A.take k) ++ [.int .i64 n.leaf] by simp [ivs, iv]]
      exact ownsRow_setCell_other (a := ⟨w.heap.size, 0, none⟩) W5.out (fun e => hnb _ e rfl) _

set_option maxHeartbeats 8000000 in
set_option maxRecDepth 100000 in
theorem yield_any (pv : Value) (S0 K : Nat → Prop) (L : List Nv) (i : Int) (w : World) (h : TrO pv S0 K L w) (hw : Wf (L.map Prod.fst)) (hfi : Gr.Fits i) (hN : (visI (L.map Prod.fst) i).length ≤ 1000000) :
    Calls Try.prog 13 #[pv, .int .i64 i] w (Listed (lefL (L.map Prod.fst) (fun n => n.sym) i) w) := by
  obtain ⟨i0, hj, hz0, hz1, hz2⟩ := info_parts info_int
  obtain ⟨pa, rfl⟩ := h.ptr
  obtain ⟨V, hV⟩ : ∃ V, V = lefI (L.map Prod.fst) i := ⟨_, rfl⟩
  have hVl : ∀ y ∈ V, y.1 < L.length := fun y hy => by have := lefI_lt hw y (hV ▸ hy); simpa using this
  have ND := Lib.hid (fun (j : Nat) (hjl : j < L.length) => h.node hjl)
  obtain ⟨A, hA⟩ : ∃ A, A = lefL (L.map Prod.fst) (fun n => n.sym) i := ⟨_, rfl⟩
  have hAl : A.length = V.length := by rw [hA, hV]; simp [lefL]
  have hVf : V.length ≤ 1000000 := hV ▸ lef_few hN
  have AT := Lib.hid (show ∀ (k : Nat) (y : Nat × Bool) (n : Nd) (v : Value) (hjl : y.1 < L.length), V[k]? = some y → L[y.1] = (n, v) → A.take (k + 1) = A.take k ++ [n.sym] from fun k y n v hjl hy hn => by
    refine take_snoc ?_
    rw [hA, lefL, ← hV, List.getElem?_map, hy, Option.map_some, ndAt_get (by simpa using hjl), List.getElem_map, hn])
  -- the boxes, the iterator
  have NX := Lib.hid (show ∀ w2, w2 = ((w.alloc (.cells #[.slice none 0 0] 25)).alloc (.cells #[.pointer pa] 23)).alloc (.cells #[.int .i64 i] 3) →
      Rg.Yields Try.prog 33 #[.pointer (some ⟨w.heap.size + 1, 0, none⟩), .pointer (some ⟨w.heap.size + 1 + 1, 0, none⟩)] (encN L V) V.length (oW S0 K (w.heap.size + 1) (w.heap.size + 1 + 1)) w2 ∧ w.heap.size + 3 = w2.heap.size ∧
      Off (fun x => x = w.heap.size ∨ (Value.slice none 0 0).ownBlock = some x) (oW S0 K (w.heap.size + 1) (w.heap.size + 1 + 1)) ∧ Inn (oW S0 K (w.heap.size + 1) (w.heap.size + 1 + 1)) w2 ∧ Inn (fun x => x = w.heap.size ∨ (Value.slice none 0 0).ownBlock = some x) w2 ∧
      intI w.heap.size w.heap.size A 0 (fun x => x = w.heap.size ∨ (Value.slice none 0 0).ownBlock = some x) w2 ∧ Below w.heap.size w w2 from by
    rintro w2 rfl
    have b0 := boxed w (.cells #[.slice none 0 0] 25)
    have b1 := boxed (w.alloc (.cells #[.slice none 0 0] 25)) (.cells #[.pointer pa] 23)
    have b2 := boxed ((w.alloc (.cells #[.slice none 0 0] 25)).alloc (.cells #[.pointer pa] 23)) (.cells #[.int .i64 i] 3)
    have b3 := Gr.step (Gr.step b0 b1) b2
    have e0 := (Gr.step b1 b2).block w.heap.size (by simp)
    have e1 : (((w.alloc (.cells #[.slice none 0 0] 25)).alloc (.cells #[.pointer pa] 23)).alloc (.cells #[.int .i64 i] 3)).heap[w.heap.size + 1]? = some (.cells #[.pointer pa] 23 (0, 0)) := by
      have := World.alloc_heap_new (w.alloc (.cells #[.slice none 0 0] 25)) (.cells #[.pointer pa] 23)
      rw [World.size_alloc] at this
      exact (b2.block _ (by simp)).trans this
    have e2 : (((w.alloc (.cells #[.slice none 0 0] 25)).alloc (.cells #[.pointer pa] 23)).alloc (.cells #[.int .i64 i] 3)).heap[w.heap.size + 1 + 1]? = some (.cells #[.int .i64 i] 3 (0, 0)) := by
      have := World.alloc_heap_new ((w.alloc (.cells #[.slice none 0 0] 25)).alloc (.cells #[.pointer pa] 23)) (.cells #[.int .i64 i] 3)
      rwa [World.size_alloc, World.size_alloc] at this
    have hsz : (((w.alloc (.cells #[.slice none 0 0] 25)).alloc (.cells #[.pointer pa] 23)).alloc (.cells #[.int .i64 i] 3)).heap.size = w.heap.size + 3 := by simp
    have hno : (Value.slice none 0 0).ownBlock = Option.none := rfl
    refine ⟨?_, hsz.symm, ?_, ?_, ?_, ⟨.slice none 0 0, rfl, e0.trans (World.alloc_heap_new _ _), World.ownsRow_nil _ _ _ _, by rw [hno]; exact fun e => nomatch e⟩, b3⟩
    · rw [hV]
      exact leaves_yields (.pointer pa) S0 K L i _ _ _ (h.went b3) hw hfi e1 e2 hN
    · rintro x (rfl | e) ho
      · rcases ho with ho | ho | ho | ho
        · have := h.inn.1 _ ho
          omega
        · have := h.inn.2 _ ho
          omega
        · omega
        · omega
      · rw [hno] at e
        cases e
    · rintro x (hx | hx | rfl | rfl)
      · have := h.inn.1 x hx
        omega
      · have := h.inn.2 x hx
        omega
      · omega
      · omega
    · rintro x (rfl | e)
      · omega
      · rw [hno] at e
        cases e)
  have LA := Lib.hid (leaves0_any pa i (w.alloc (.cells #[.slice none 0 0] 25)))
  rw [← hA]
  clear h hV hA
  refine (callsIn_wide (n := 9)).1 ?_
  refine callsIn_of_wp_marks Try.func13 rfl trivial ?_ rfl
  simp only [Try.ntmps13, List.size_toArray, List.length_cons, List.length_nil, Nat.reduceAdd, Nat.reduceSub, Array.replicate_succ, Array.replicate_zero, List.push_toArray, List.append_toArray, List.nil_append, List.cons_append]
  gi_wp2_with (refine ⟨trivial, ?_⟩; gi_at_call 21; refine (calls_any LA.out).mono ?_; rintro e w2 ⟨rfl, hw2⟩; have X2 := Lib.hid (NX.out w2 hw2); clear hw2)
  clear NX LA
  obtain ⟨hyl, hsz, hoff, hoi, his, hri, hbl⟩ := X2.out
  have HS2 := Lib.hid hsz
  have HB2 := Lib.hid hbl
  refine range_law (n := 9) (gf := 33) (lb := #[.pointer (some ⟨w.heap.size + 1, 0, none⟩), .pointer (some ⟨w.heap.size + 1 + 1, 0, none⟩)]) rfl (enters_of Try.func33 (by kernel_rfl) rfl) (encs := encN L V) hyl (fun _ => rfl)
    (intI w.heap.size w.heap.size A) (fun _ _ _ _ => False) (intI_holds _ _ _ _) (fun _ _ _ _ _ _ h _ _ _ => h) _ (fun _ => False) hoff hoi his (fun _ h => h.elim) hri ?round ?done ?stop
  case stop =>
    rintro c k S' W hk h
    exact h.elim
  case done =>
    rintro S' W ⟨v', rfl, h1, h2, h3⟩ hin he hf hD hnD
    obtain ⟨a', c', rfl⟩ := Rw.row_shape h2
    have c1 := cells_of h1 (k := 0) (by simp)
    have EN := Lib.hid (show ∀ w', Fr (fun x => x ∈ [w2.heap.size]) W w' → Listed A w (.returned (.slice a' V.length c')) w' from fun w' hf' => by
      rw [List.take_of_length_le (Nat.le_of_eq hAl)] at h2
      have h4 : w'.ownsRow w.heap.size 3 1 (.slice a' V.length c') V.length (ivs A) := ownsRow_at h2 fun b e => hf'.block b (World.ownsRow.lt h2 b e).2 fun e2 => by
        rw [List.mem_singleton] at e2
        exact hnD (.inr (by rw [← e2]; exact e))
      rw [← hAl] at h4 ⊢
      refine ⟨a', c', rfl, .of_row h4, Gr.row_new h4 (Nat.le_refl _), ?_⟩
      refine HB2.out.trans ?_
      have f2 : Fr (fun x => w.heap.size ≤ x) w2 W := hf.mono fun x hx => hx.elim (fun e => Nat.le_of_eq e.symm) fun e => by cases e
      have f3 : Fr (fun x => w.heap.size ≤ x) W w' := hf'.mono fun x hx => by
        rw [List.mem_singleton] at hx
        subst hx
        show w.heap.size ≤ w2.heap.size
        omega
      exact (f2.trans f3 (.refl _ _)).below (fun _ h => h) (by omega))
    have LM := Lib.hid (show ∀ (fn : Func) (tmps : Array Value) (R : Ending → World → Prop), (∀ w', Fr (fun x => x ∈ [w2.heap.size]) W w' → ∃ v, (results fn tmps).run Try.prog w' = .ok v w' ∧ R (.returned v) w') → LeavesInM Fence.wide 9 Try.prog fn tmps R [{ target := .collected w2.heap.size, args := #[] }] .returning W from
      fun fn tmps R hR => leaves_marks [w2.heap.size] W (by simp) (fun D hD' => by rw [List.mem_singleton] at hD'; subst hD'; exact hD) hR)
    clear h1 h2 h3 hin he hf hD hnD hyl hsz hoff hoi his hri hbl X2
    gi_wp2
    refine LM.out _ _ _ ?_
    intro w' hf
    refine ⟨_, results_tmp rfl _ _ _, ?_⟩
    exact EN.out w' hf
  case round =>
    rintro l k S' W hk hl hl2 hnl ⟨v', rfl, h1, h2, h3⟩ hin he hf
    obtain ⟨a', c', rfl⟩ := Rw.row_shape h2
    obtain ⟨y, hy⟩ : ∃ x, V[k]? = some x := ⟨_, List.getElem?_eq_getElem hk⟩
    have hjl := hVl y (List.mem_of_getElem? hy)
    obtain ⟨n, a2, c3, hnd⟩ := ND.out y.1 hjl
    have AK := Lib.hid (AT.out k y n _ hjl hy hnd)
    have e1 : V.getD k (0, false) = y := by rw [List.getD_eq_getElem?_getD, hy]; rfl
    have e2 : L.getD y.1 nv0 = (n, .slice a2 n.kids.length c3) := by rw [List.getD_eq_getElem?_getD, List.getElem?_eq_getElem hjl, ← hnd]; rfl
    unfold encN
    rw [e1, e2]
    unfold ndv
    dsimp only
    have hbs : w.heap.size < W.heap.size := (Array.getElem?_eq_some_iff.1 h1).1
    have hlb : w.heap.size ≠ l := fun e => hnl (.inl e.symm)
    have EX := Lib.hid (show ∀ w2, Fr (fun x => x = l) (W.alloc (.cells #[.int .i64 n.sym, .int .i64 n.leaf, .int .i64 n.rule, .slice a2 n.kids.length c3, .bool n.inner, .bool n.taken] 51)) w2 → w2.heap[w.heap.size]? = some (.cells #[.slice a' k c'] 25 (0, 0)) ∧ w2.ownsRow w.heap.size 3 1 (.slice a' k c') k (ivs (A.take k)) ∧
        Bk W.heap.size #[.int .i64 n.sym, .int .i64 n.leaf, .int .i64 n.rule, .slice a2 n.kids.length c3, .bool n.inner, .bool n.taken] 51 w2 from fun w2 h => by
      have b1 := boxed W (.cells #[.int .i64 n.sym, .int .i64 n.leaf, .int .i64 n.rule, .slice a2 n.kids.length c3, .bool n.inner, .bool n.taken] 51)
      refine ⟨fr_kept h ((b1.block _ hbs).trans h1) hlb, ownsRow_at h2 fun b e => ?_, (Bk.new W _ _ _ rfl).fr h (by omega)⟩
      have hb := (World.ownsRow.lt h2 b e).2
      exact (h.block b (Nat.lt_of_lt_of_le hb b1.size) fun e2 => hnl (.inr (by rw [← e2]; exact e))).trans (b1.block b hb))
    have NE := Lib.hid h3
    clear h1 h2 h3 hin hyl hsz hoff hoi his hri hbl X2 e1 e2
    gi_wp2
    refine ⟨(Fr.refl _ W).alloc _, fun w4 hw4 hs4 => ?_⟩
    obtain ⟨e1, e3, q4⟩ := EX.out w4 hw4
    have c1 := cells_of e1 (k := 0) (by simp)
    have d0 := q4.cell (j := 0) rfl
    have d1 := q4.cell (j := 1) rfl
    have b3 := boxed w4 (.cells #[.int .i64 n.sym] 3)
    have R3 := Lib.hid (ownsRow_at e3 (w' := w4.alloc (.cells #[.int .i64 n.sym] 3)) fun b e => b3.block b (World.ownsRow.lt e3 b e).2)
    have hws : w.heap.size ≤ w4.heap.size := by have := (World.ownsRow.lt e3); omega
    have ON := Lib.hid (show (w4.alloc (.cells #[.int .i64 n.sym] 3)).ownsRow w.heap.size 3 1 (.slice (some ⟨w4.heap.size, 0, none⟩) 1 1) 1 [.int .i64 n.sym] from
      World.ownsRow_lit w4 #[.int .i64 n.sym] 1 hws (by decide) (by simp))
    have hb4 : w.heap.size ≤ (w4.alloc (.cells #[.int .i64 n.sym] 3)).heap.size := by rw [World.size_alloc]; omega
    have BX := Lib.hid (show ∀ w5, (w4.alloc (.cells #[.int .i64 n.sym] 3)).grownBy w5 (Value.slice a' k c').ownBlock → w5.heap[w.heap.size]? = some (.cells #[.slice a' k c'] 25 (0, 0)) from
      fun w5 hg => (hg.block _ (by rw [World.size_alloc]; omega) fun e => NE.out e.symm).trans ((b3.block _ (by omega)).trans e1))
    have B3 := Lib.hid b3
    have HS := Lib.hid hs4
    clear e1 e3 EX b3 hs4 q4
    gi_wp2_with (gi_at_builtin; refine wpListIn_append_rows _ rfl _ _ 25 rfl w.heap.size 3 i0 (.int .i64 0) 1 8 Try.underlying25 hj hz0 hz1 hz2 rfl (by decide) (.slice a' k c') k (ivs (A.take k)) rfl R3.out w.heap.size (.slice (some ⟨w4.heap.size, 0, none⟩) 1 1) 1 [.int .i64 n.sym] rfl ON.out (by simp [Value.oneCell']) (by unfold maxLen; omega) (by omega) hb4 ?_; intro v5 w5 hown5 hg5 hloc5; have B5 := BX.out w5 hg5; have c2 := cells_of B5 (k := 0) (by simp); have f2 : w5.frozen? ⟨w.heap.size, 0, none⟩ = false := free_of B5; have W5 := Lib.hid hown5; have G5 := Lib.hid hg5; have L5 := Lib.hid hloc5; obtain ⟨a5, c5, rfl⟩ := Rw.row_shape hown5; clear hown5 hg5 hloc5)
    have hs4 := HS.out
    have h5b := BX.out w5 G5.out
    have hbs5 : w.heap.size < w5.heap.size := (Array.getElem?_eq_some_iff.1 h5b).1
    have hnb : ∀ x, (Value.slice a5 (k + 1) c5).ownBlock = some x → x = w.heap.size → False := fun x e e2 => by
      rcases L5.out with h | h
      · rw [h, e2] at e
        exact NE.out e
      · rw [e] at h
        injection h with h
        rw [World.size_alloc] at h
        omega
    have gs := Rg.grown_set w5 w.heap.size 0 (.slice a5 (k + 1) c5)
    refine ⟨fun x => x = w.heap.size ∨ (Value.slice a5 (k + 1) c5).ownBlock = some x, ?_, ?_, ?_, .slice a5 (k + 1) c5, rfl, set_heap h5b _, ?_, fun e => hnb _ e rfl⟩
    · rintro x (hx | hx)
      · exact .inl (.inl hx)
      · rcases L5.out with h | h
        · exact .inl (.inr (by rw [← h]; exact hx))
        · rw [hx] at h
          injection h with h
          rw [World.size_alloc] at h
          exact .inr (by omega)
    · have f1 : Fr (fun x => (x = w.heap.size ∨ (Value.slice a' k c').ownBlock = some x) ∨ W.heap.size ≤ x) w4 w5 := ((Fr.of_below B3.out).grown G5.out fun x e => .inl (.inl (.inr e)))
      exact f1.setCell ⟨w.heap.size, 0, none⟩ (.inl (.inl rfl)) _
    · rintro x (rfl | hx)
      · exact Nat.lt_of_lt_of_le hbs5 gs.size
      · exact Nat.lt_of_lt_of_le (World.ownsRow.lt W5.out x hx).2 gs.size
    · rw [AK.out, show ivs (A.take k ++ [n.sym]) = ivs (A.take k) ++ [.int .i64 n.sym] by simp [ivs, iv]]
      exact ownsRow_setCell_other (a := ⟨w.heap.size, 0, none⟩) W5.out (fun e => hnb _ e rfl) _

end Go.Proofs.Ytoohnkffclkmhaa.Tr
