/-
  Package arena: descend: the way through an inner node is put on the list.
-/
import Derived.Test.YtoohnkffclkmhaaArenaBack
import Derived.Shelf.Abstract
namespace Go.Proofs.Ytoohnkffclkmhaa.Tr
open Go.RowKit Go.Maps Go.Shelf
open Go.Proofs.Ytoohnkffclkmhaa.Sep
open Go.Proofs.Ytoohnkffclkmhaa.Rg
open Go.Proofs.Ytoohnkffclkmhaa.Rw (Bk)
open Go.Proofs.Ytoohnkffclkmhaa.Gr (cell_later boxed drawn Is bool_of int_of ivs iv)
attribute [local go_sem] Oper.semAt_some
set_option linter.unusedVariables false
set_option linter.unusedSimpArgs false

/-- A place of a walk: its cells. -/
def vc (x : Int × Bool) : List Value := [.int .i64 x.1, .bool x.2]
theorem vc_len (x : Int × Bool) : (vc x).length = 2 := rfl
theorem vc_one (x : Int × Bool) : ∀ u ∈ vc x, u.oneCell' = true := by
  intro u hu
  simp only [vc, List.mem_cons, List.not_mem_nil, or_false] at hu
  rcases hu with rfl | rfl <;> rfl
theorem info_visit : (Try.prog.info? 84).map (fun i => (i.zero, i.size, i.bytes)) = some (some (.agg #[.int .i64 0, .bool false]), 2, 16) := by kernel_rfl

theorem back_any (a : Option Addr) (n c : Nat) (w : World) : Calls Try.prog 56 #[.slice a n c] w fun e w' => e = .returned (.func (.func 63) #[] #[.pointer (some ⟨w.heap.size, 0, none⟩)]) ∧ w' = w.alloc (.cells #[.slice a n c] 25) := by
  go_enter Try.func56, Try.ntmps56
  go_wp2
  go_ret
  exact ⟨rfl, rfl⟩


/-- What is on the list where k children have come. -/
def stkL (X : List (Int × Bool)) (ks : List Int) (k : Nat) : List (Int × Bool) := X ++ (ks.reverse.take k).map fun y => (y, false)
theorem stkL_zero (X : List (Int × Bool)) (ks : List Int) : stkL X ks 0 = X := by simp [stkL]
theorem stkL_succ (X : List (Int × Bool)) (ks : List Int) (k : Nat) (h : k < ks.length) : stkL X ks (k + 1) = stkL X ks k ++ [(ks.reverse.getD k 0, false)] := by
  unfold stkL
  rw [List.take_succ_eq_append_getElem (by simpa using h), List.map_append, List.append_assoc, List.getD_eq_getElem?_getD, List.getElem?_eq_getElem (by simpa using h)]
  rfl
theorem stkL_len (X : List (Int × Bool)) (ks : List Int) (k : Nat) (h : k ≤ ks.length) : (stkL X ks k).length = X.length + k := by simp [stkL]; omega
theorem stkL_full (X : List (Int × Bool)) (ks : List Int) : stkL X ks ks.length = X ++ ks.reverse.map fun y => (y, false) := by
  unfold stkL
  rw [List.take_of_length_le (by simp)]
/-- What holds between two rounds: the list so far, in its box. -/
def stkI (base bs : Nat) (X : List (Int × Bool)) (ks : List Int) (k : Nat) (S' : Nat → Prop) (W : World) : Prop :=
  ∃ v, S' = (fun x => x = bs ∨ v.ownBlock = some x) ∧ W.heap[bs]? = some (.cells #[v] 82 (0, 0)) ∧ W.ownsRow base 84 2 v (X.length + k) ((stkL X ks k).flatMap vc) ∧ v.ownBlock ≠ some bs
theorem stkI_holds (B base bs : Nat) (X : List (Int × Bool)) (ks : List Int) : Holds B (stkI base bs X ks) := by
  rintro k S' T A A' ⟨v, rfl, h1, h2, h3⟩ hi hf hT
  exact ⟨v, rfl, fr_kept hf h1 fun h => (hT _ h).2 (.inl rfl), ownsRow_at h2 fun g hg => hf.block g (World.ownsRow.lt h2 g hg).2 fun h => (hT _ h).2 (.inr hg), h3⟩

/-- What descend answers. -/
def Descd (base : Nat) (X : List (Int × Bool)) (v : Value) (w : World) (e : Ending) (w' : World) : Prop :=
  ∃ v', e = .returned v' ∧ w'.ownsRow base 84 2 v' X.length (X.flatMap vc) ∧ Fr (fun b => v.ownBlock = some b) w w' ∧ ∀ b, v'.ownBlock = some b → v.ownBlock = some b ∨ w.heap.size ≤ b

set_option maxHeartbeats 4000000 in
set_option maxRecDepth 100000 in
theorem desc_any (n : Nd) (a2 : Option Addr) (c2 : Nat) (i : Int) (base : Nat) (v : Value) (X : List (Int × Bool)) (K : Nat → Prop) (w : World) (hk : KidA K (n, .slice a2 n.kids.length c2) w) (hrow : w.ownsRow base 84 2 v X.length (X.flatMap vc))
    (hoff : ∀ b, v.ownBlock = some b → ¬ K b) (hX : X.length ≤ 100000000) (hbase : base ≤ w.heap.size) :
    Calls Try.prog 45 #[ndv (n, .slice a2 n.kids.length c2), .int .i64 i, v] w (Descd base (stkL (X ++ [(i, true)]) n.kids n.kids.length) v w) := by
  obtain ⟨i0, hj, hz0, hz1, hz2⟩ := info_parts info_visit
  obtain ⟨a, c, hv⟩ := Rw.row_shape hrow
  subst hv
  have hX0 : X.length = X.length := rfl
  -- the boxes
  obtain ⟨wa, hwa⟩ : ∃ wa, w.alloc (.cells #[.int .i64 n.sym, .int .i64 n.leaf, .int .i64 n.rule, .slice a2 n.kids.length c2, .bool n.inner, .bool n.taken] 51) = wa := ⟨_, rfl⟩
  obtain ⟨wb, hwb⟩ : ∃ wb, wa.alloc (.cells #[.slice a X.length c] 82) = wb := ⟨_, rfl⟩
  have sa : wa.heap.size = w.heap.size + 1 := by rw [← hwa]; simp
  have sb : wb.heap.size = w.heap.size + 2 := by rw [← hwb]; simp [sa]
  have Ba : Below w.heap.size w wa := hwa ▸ boxed _ _
  have Bb : Below w.heap.size w wb := Gr.step Ba (hwb ▸ boxed _ _)
  have qn : Bk w.heap.size #[.int .i64 n.sym, .int .i64 n.leaf, .int .i64 n.rule, .slice a2 n.kids.length c2, .bool n.inner, .bool n.taken] 51 wb := (hwa ▸ Bk.new w _ _ _ rfl : Bk w.heap.size _ _ wa).went (hwb ▸ boxed _ _)
  have qs : Bk wa.heap.size #[.slice a X.length c] 82 wb := hwb ▸ Bk.new wa _ _ _ rfl
  rw [sa] at qs
  have y1 := qs.cell (j := 0) rfl
  have B1 : Below w.heap.size w (wb.alloc (.cells #[.int .i64 i, .bool true] 84)) := Gr.step Bb (boxed _ _)
  have RX := Lib.hid (ownsRow_at hrow (w' := wb.alloc (.cells #[.int .i64 i, .bool true] 84)) fun b e => B1.block b (World.ownsRow.lt hrow b e).2)
  have ON := Lib.hid (show (wb.alloc (.cells #[.int .i64 i, .bool true] 84)).ownsRow base 84 2 (.slice (some ⟨wb.heap.size, 0, none⟩) 1 1) 1 (vc (i, true)) from
    World.ownsRow_lit wb #[.int .i64 i, .bool true] 1 (by omega) (by decide) (by simp))
  have hb1 : base ≤ (wb.alloc (.cells #[.int .i64 i, .bool true] 84)).heap.size := by rw [World.size_alloc]; omega
  have VO := Lib.hid (vc_one (i, true))
  have hvlt : ∀ b, (Value.slice a X.length c).ownBlock = some b → b < w.heap.size := fun b e => (World.ownsRow.lt hrow b e).2
  -- behind the first append
  have NX := Lib.hid (show ∀ (v1 : Value) (w1 : World), w1.ownsRow base 84 2 v1 (X.length + 1) (X.flatMap vc ++ vc (i, true)) → (wb.alloc (.cells #[.int .i64 i, .bool true] 84)).grownBy w1 (Value.slice a X.length c).ownBlock →
      (v1.ownBlock = (Value.slice a X.length c).ownBlock ∨ v1.ownBlock = some (wb.alloc (.cells #[.int .i64 i, .bool true] 84)).heap.size) →
      w1.cell? ⟨w.heap.size + 1, 0, none⟩ = some (.slice a X.length c) ∧ w1.frozen? ⟨w.heap.size + 1, 0, none⟩ = false ∧ ∀ w2, w2 = w1.setCell ⟨w.heap.size + 1, 0, none⟩ v1 →
        w2.cell? ⟨w.heap.size, 3, none⟩ = some (.slice a2 n.kids.length c2) ∧ stkI base (w.heap.size + 1) (X ++ [(i, true)]) n.kids 0 (fun x => x = w.heap.size + 1 ∨ v1.ownBlock = some x) w2 ∧ w.heap.size + 3 ≤ w2.heap.size ∧
        Fr (fun b => (Value.slice a X.length c).ownBlock = some b) w w2 ∧ Inn (fun x => x = w.heap.size + 1 ∨ v1.ownBlock = some x) w2 ∧ Reads a2 (ivs n.kids) w2 ∧ (∀ b, v1.ownBlock = some b → (Value.slice a X.length c).ownBlock = some b ∨ w.heap.size ≤ b) ∧ (∀ b, v1.ownBlock = some b → ¬ K b ∨ w.heap.size ≤ b) from by
    intro v1 w1 hown hg hloc
    have hne : (Value.slice a X.length c).ownBlock ≠ some (w.heap.size + 1) := fun e => by have := hvlt _ e; omega
    have hne0 : (Value.slice a X.length c).ownBlock ≠ some w.heap.size := fun e => by have := hvlt _ e; omega
    have hs1 : wb.heap.size + 1 ≤ w1.heap.size := by have := hg.size; rwa [World.size_alloc] at this
    have qs1 : Bk (w.heap.size + 1) #[.slice a X.length c] 82 w1 := (qs.went (boxed _ _)).grown hg fun k e e2 => hne (by rw [e, e2])
    have qn1 := (qn.went (boxed wb (.cells #[.int .i64 i, .bool true] 84))).grown hg fun k e e2 => hne0 (by rw [e, e2])
    have hv1 : v1.ownBlock ≠ some (w.heap.size + 1) := fun e => by
      rcases hloc with e2 | e2
      · exact hne (by rw [← e2]; exact e)
      · rw [e2, World.size_alloc] at e
        injection e with e
        omega
    have hF1 : Fr (fun b => (Value.slice a X.length c).ownBlock = some b) w w1 := (Fr.of_below B1).grown hg fun k e => .inl e
    refine ⟨qs1.cell rfl, qs1.free 0, ?_⟩
    rintro w2 rfl
    have hF2 : Fr (fun b => (Value.slice a X.length c).ownBlock = some b) w (w1.setCell ⟨w.heap.size + 1, 0, none⟩ v1) := hF1.setNew ⟨w.heap.size + 1, 0, none⟩ (by simp) v1
    have hF3 : Fr (fun b => b = w.heap.size + 1) w1 (w1.setCell ⟨w.heap.size + 1, 0, none⟩ v1) := (Fr.refl (fun b => b = w.heap.size + 1) w1).setCell ⟨w.heap.size + 1, 0, none⟩ rfl v1
    refine ⟨(qn1.fr hF3 (by omega)).cell rfl, ⟨v1, rfl, qs1.set (by simp) v1, ?_, hv1⟩, by have := hF3.size; omega, hF2, ?_, ?_, ?_, ?_⟩
    · rw [stkL_zero, List.flatMap_append, List.flatMap_singleton, List.length_append, List.length_singleton]
      exact ownsRow_setCell_other hown hv1 _
    · rintro x (rfl | e)
      · have := hF3.size
        omega
      · exact Nat.lt_of_lt_of_le (World.ownsRow.lt hown x e).2 hF3.size
    · have hk2 := hk.fr hF2 fun b e hkb => hoff b e hkb
      obtain ⟨a', c', e, hr, _⟩ := hk2.at_
      simp only [Value.slice.injEq] at e
      obtain ⟨rfl, _, _⟩ := e
      exact hr
    · intro b e
      rcases hloc with e2 | e2
      · exact .inl (by rw [← e2]; exact e)
      · rw [e2, World.size_alloc] at e
        injection e with e
        exact .inr (by omega)
    · intro b e
      rcases hloc with e2 | e2
      · exact .inl (hoff b (by rw [← e2]; exact e))
      · rw [e2, World.size_alloc] at e
        injection e with e
        exact .inr (by omega))
  have hk2 := hk.few
  have KB := Lib.hid (show 0 < n.kids.length → ∀ b o, a2 = some ⟨b, o, none⟩ → K b ∧ b < w.heap.size from fun hp b o e => by
    obtain ⟨a', c', e', hr, hkb⟩ := hk.at_
    simp only [Value.slice.injEq] at e'
    obtain ⟨rfl, _, _⟩ := e'
    refine ⟨hkb b o e hp, ?_⟩
    obtain ⟨b', o', e2, hc⟩ := hr 0 (by simpa using hp)
    rw [e] at e2
    injection e2 with e2
    injection e2 with e3 _ _
    rw [e3]
    exact World.block_lt_of_cell? w ⟨b', o' + 0, none⟩ hc)
  clear hk hrow hoff qs qn Ba Bb B1
  unfold ndv
  dsimp only at hk2 ⊢
  generalize hkn : n.kids = ks at *
  refine (callsIn_wide (n := 9)).1 ?_
  refine callsIn_of_wp_marks Try.func45 rfl trivial ?_ rfl
  simp only [Try.ntmps45, List.size_toArray, List.length_cons, List.length_nil, Nat.reduceAdd, Nat.reduceSub, Array.replicate_succ, Array.replicate_zero, List.push_toArray, List.append_toArray, List.nil_append, List.cons_append]
  gi_wp2_with (first
    | (gi_at_builtin; refine wpListIn_append_rows _ rfl _ _ 82 rfl base 84 i0 (.agg #[.int .i64 0, .bool false]) 2 16 Try.underlying82 hj hz0 hz1 hz2 rfl (by decide) (.slice a X.length c) X.length (X.flatMap vc) rfl RX.out base (.slice (some ⟨w.heap.size + 2, 0, none⟩) 1 1) 1 (vc (i, true)) rfl (by rw [← sb]; exact ON.out) VO.out (by unfold maxLen; omega) (by omega) hb1 ?_; intro v1 w1 hown1 hg1 hloc1; obtain ⟨k0, k1, k2⟩ := NX.out v1 w1 hown1 hg1 hloc1; have N2 := Lib.hid (k2 _ rfl); obtain ⟨a1, c1, rfl⟩ := Rw.row_shape hown1; clear hown1 hg1 hloc1 k2; have z3 := N2.out.1)
    | (refine ⟨trivial, ?_⟩; gi_at_call 56; refine (calls_any (back_any a2 ks.length c2 _)).mono ?_; rintro e w3 ⟨rfl, hw3⟩; have W3 := Lib.hid hw3; clear hw3))
  clear hwa hwb NX RX ON VO y1 z3 k0 k1
  have es : w1.heap.size = (w1.setCell ⟨w.heap.size + 1, 0, none⟩ (.slice a1 (X.length + 1) c1)).heap.size := (Rw.set_size _ _ _).symm
  rw [es]
  clear es
  generalize hw2 : w1.setCell ⟨w.heap.size + 1, 0, none⟩ (.slice a1 (X.length + 1) c1) = w2 at *
  obtain ⟨-, hI0, hsz, hF2, hIn, hR2, hv1, hv2⟩ := N2.out
  have b3 : Below w2.heap.size w2 w3 := W3.out ▸ boxed _ _
  have h3 : w3.heap[w2.heap.size]? = some (.cells #[.slice a2 ks.length c2] 25 (0, 0)) := W3.out ▸ World.alloc_heap_new _ _
  have YB := Lib.hid (back_yields ks a2 c2 w2.heap.size w3 h3 (hR2.below b3 (Nat.le_refl _)) hk2)
  have I3 := Lib.hid (stkI_holds w2.heap.size base _ _ _ 0 _ (fun _ => False) _ w3 hI0 hIn (.of_below b3) fun _ h => h.elim)
  have OI := Lib.hid (show Inn (oB w2.heap.size a2 ks) w3 from by
    rintro x (rfl | ⟨hp, o, e⟩)
    · exact (Array.getElem?_eq_some_iff.1 h3).1
    · have := (KB.out hp x o e).2
      have := b3.size
      omega)
  have OF := Lib.hid (show Off (fun x => x = w.heap.size + 1 ∨ (Value.slice a1 (X.length + 1) c1).ownBlock = some x) (oB w2.heap.size a2 ks) from by
    rintro x hx (rfl | ⟨hp, o, e⟩)
    · have := hIn _ hx
      omega
    · obtain ⟨q1, q2⟩ := KB.out hp x o e
      rcases hx with rfl | hx
      · omega
      · rcases hv2 x hx with h | h
        · exact h q1
        · omega)
  have SI := Lib.hid (hIn.le b3.size)
  have F3 := Lib.hid ((hF2.trans (Fr.of_below (S := fun b => (Value.slice a X.length c).ownBlock = some b) b3) fun x hx => .inl hx))
  have V1 := Lib.hid hv1
  have hs3 : w2.heap.size < w3.heap.size := (Array.getElem?_eq_some_iff.1 h3).1
  clear hI0 hF2 hIn hR2 hv1 hv2 b3 h3 N2 W3 hvlt sa sb KB
  refine range_law (n := 9) (gf := 63) (lb := #[.pointer (some ⟨w2.heap.size, 0, none⟩)]) rfl (enters_of Try.func63 (by kernel_rfl) rfl) (encs := encB ks) YB.out (fun _ => rfl)
    (stkI base (w.heap.size + 1) (X ++ [(i, true)]) ks) (fun _ _ _ _ => False) (stkI_holds _ _ _ _ _) (fun _ _ _ _ _ _ h _ _ _ => h) _ (fun _ => False) OF.out OI.out SI.out (fun _ h => h.elim) I3.out ?round ?done ?stop
  case stop =>
    rintro c k S' W hk h
    exact h.elim
  case done =>
    rintro S' W ⟨v', rfl, h1, h2, h3⟩ hin he hf hD hnD
    rw [show (X ++ [(i, true)]).length = X.length + 1 by simp] at h2
    obtain ⟨a', c', rfl⟩ := Rw.row_shape h2
    have c1 := cells_of h1 (k := 0) (by simp)
    have EN := Lib.hid (show ∀ w', Fr (fun x => x ∈ [w3.heap.size]) W w' → Descd base (stkL (X ++ [(i, true)]) ks ks.length) (.slice a X.length c) w (.returned (.slice a' (X.length + 1 + ks.length) c')) w' from fun w' hf' => by
      refine ⟨_, rfl, ?_, ?_, ?_⟩
      · rw [stkL_len _ _ _ (Nat.le_refl _), show (X ++ [(i, true)]).length = X.length + 1 by simp]
        exact ownsRow_at h2 fun b e => hf'.block b (World.ownsRow.lt h2 b e).2 fun e2 => by
          rw [List.mem_singleton] at e2
          exact hnD (.inr (by rw [← e2]; exact e))
      · refine ((F3.out.trans hf ?_).trans hf' ?_)
        · rintro x (rfl | e)
          · exact .inr (by omega)
          · exact V1.out x e
        · intro x hx
          rw [List.mem_singleton] at hx
          subst hx
          exact .inr (by omega)
      · intro b e
        rcases he b (.inr e) with (rfl | e) | e
        · exact .inr (by omega)
        · exact V1.out b e
        · exact .inr (by omega))
    have LM := Lib.hid (show ∀ (fn : Func) (tmps : Array Value) (R : Ending → World → Prop), (∀ w', Fr (fun x => x ∈ [w3.heap.size]) W w' → ∃ v, (results fn tmps).run Try.prog w' = .ok v w' ∧ R (.returned v) w') → LeavesInM Fence.wide 9 Try.prog fn tmps R [{ target := .collected w3.heap.size, args := #[] }] .returning W from
      fun fn tmps R hR => leaves_marks [w3.heap.size] W (by simp) (fun D hD' => by rw [List.mem_singleton] at hD'; subst hD'; exact hD) hR)
    clear h1 h2 h3 hin he hf hD hnD I3 OF OI SI YB
    gi_wp2
    refine LM.out _ _ _ ?_
    intro w' hf
    refine ⟨_, results_tmp rfl _ _ _, ?_⟩
    exact EN.out w' hf
  case round =>
    rintro l k S' W hk hl hl2 hnl ⟨v', rfl, h1, h2, h3⟩ hin he hf
    obtain ⟨a', c', rfl⟩ := Rw.row_shape h2
    have hbs : w.heap.size + 1 < W.heap.size := (Array.getElem?_eq_some_iff.1 h1).1
    have hlb : w.heap.size + 1 ≠ l := fun e => hnl (.inl e.symm)
    have EX := Lib.hid (show ∀ w2, Fr (fun x => x = l) W w2 → w2.heap[w.heap.size + 1]? = some (.cells #[.slice a' ((X ++ [(i, true)]).length + k) c'] 82 (0, 0)) ∧ w2.ownsRow base 84 2 (.slice a' ((X ++ [(i, true)]).length + k) c') ((X ++ [(i, true)]).length + k) ((stkL (X ++ [(i, true)]) ks k).flatMap vc) from fun w2 h =>
      ⟨fr_kept h h1 hlb, ownsRow_at h2 fun b e => h.block b (World.ownsRow.lt h2 b e).2 fun e2 => hnl (.inr (by rw [← e2]; exact e))⟩)
    have NE := Lib.hid h3
    have SS := Lib.hid (stkL_succ (X ++ [(i, true)]) ks k hk)
    have hlen2 : (X ++ [(i, true)]).length + k ≤ 200000000 := by rw [List.length_append, List.length_singleton]; omega
    generalize hm : (X ++ [(i, true)]).length + k = m at *
    have HM := Lib.hid hm
    clear hm
    clear h1 h2 h3 hin YB I3 OF OI SI F3 V1
    unfold encB
    generalize ks.reverse.getD k 0 = y at *
    gi_wp2
    refine ⟨Fr.refl _ W, fun w4 hw4 hs4 => ?_⟩
    obtain ⟨e1, e3⟩ := EX.out w4 hw4
    have c1 := cells_of e1 (k := 0) (by simp)
    have b3 := boxed w4 (.cells #[.int .i64 y, .bool false] 84)
    have R3 := Lib.hid (ownsRow_at e3 (w' := w4.alloc (.cells #[.int .i64 y, .bool false] 84)) fun b e => b3.block b (World.ownsRow.lt e3 b e).2)
    have ON := Lib.hid (show (w4.alloc (.cells #[.int .i64 y, .bool false] 84)).ownsRow base 84 2 (.slice (some ⟨w4.heap.size, 0, none⟩) 1 1) 1 (vc (y, false)) from
      World.ownsRow_lit w4 #[.int .i64 y, .bool false] 1 (by omega) (by decide) (by simp))
    have hb4 : base ≤ (w4.alloc (.cells #[.int .i64 y, .bool false] 84)).heap.size := by rw [World.size_alloc]; omega
    have VO := Lib.hid (vc_one (y, false))
    have BX := Lib.hid (show ∀ w5, (w4.alloc (.cells #[.int .i64 y, .bool false] 84)).grownBy w5 (Value.slice a' m c').ownBlock → w5.heap[w.heap.size + 1]? = some (.cells #[.slice a' m c'] 82 (0, 0)) from
      fun w5 hg => (hg.block _ (by rw [World.size_alloc]; omega) fun e => NE.out e.symm).trans ((b3.block _ (by omega)).trans e1))
    have B3 := Lib.hid b3
    have HS := Lib.hid hs4
    clear e1 e3 EX b3 hs4
    gi_wp2_with (gi_at_builtin; refine wpListIn_append_rows _ rfl _ _ 82 rfl base 84 i0 (.agg #[.int .i64 0, .bool false]) 2 16 Try.underlying82 hj hz0 hz1 hz2 rfl (by decide) (.slice a' m c') m ((stkL (X ++ [(i, true)]) ks k).flatMap vc) rfl R3.out base (.slice (some ⟨w4.heap.size, 0, none⟩) 1 1) 1 (vc (y, false)) rfl ON.out VO.out (by unfold maxLen; omega) (by omega) hb4 ?_; intro v5 w5 hown5 hg5 hloc5; have B5 := BX.out w5 hg5; have c2 := cells_of B5 (k := 0) (by simp); have f2 : w5.frozen? ⟨w.heap.size + 1, 0, none⟩ = false := free_of B5; have W5 := Lib.hid hown5; have G5 := Lib.hid hg5; have L5 := Lib.hid hloc5; obtain ⟨a5, c5, rfl⟩ := Rw.row_shape hown5; clear hown5 hg5 hloc5)
    have hs4 := HS.out
    have h5b := BX.out w5 G5.out
    have hbs5 : w.heap.size + 1 < w5.heap.size := (Array.getElem?_eq_some_iff.1 h5b).1
    have hnb : ∀ x, (Value.slice a5 (m + 1) c5).ownBlock = some x → x = w.heap.size + 1 → False := fun x e e2 => by
      rcases L5.out with h | h
      · rw [h, e2] at e
        exact NE.out e
      · rw [e] at h
        injection h with h
        rw [World.size_alloc] at h
        omega
    have gs := Rg.grown_set w5 (w.heap.size + 1) 0 (.slice a5 (m + 1) c5)
    refine ⟨fun x => x = w.heap.size + 1 ∨ (Value.slice a5 (m + 1) c5).ownBlock = some x, ?_, ?_, ?_, .slice a5 (m + 1) c5, rfl, set_heap h5b _, ?_, fun e => hnb _ e rfl⟩
    · rintro x (hx | hx)
      · exact .inl (.inl hx)
      · rcases L5.out with h | h
        · exact .inl (.inr (by rw [← h]; exact hx))
        · rw [hx] at h
          injection h with h
          rw [World.size_alloc] at h
          exact .inr (by omega)
    · have f1 : Fr (fun x => (x = w.heap.size + 1 ∨ (Value.slice a' m c').ownBlock = some x) ∨ W.heap.size ≤ x) w4 w5 := ((Fr.of_below B3.out).grown G5.out fun x e => .inl (.inl (.inr e)))
      exact f1.setCell ⟨w.heap.size + 1, 0, none⟩ (.inl (.inl rfl)) _
    · rintro x (rfl | hx)
      · exact Nat.lt_of_lt_of_le hbs5 gs.size
      · exact Nat.lt_of_lt_of_le (World.ownsRow.lt W5.out x hx).2 gs.size
    · rw [SS.out, List.flatMap_append, List.flatMap_singleton, show (X ++ [(i, true)]).length + (k + 1) = m + 1 by have := HM.out; omega]
      exact ownsRow_setCell_other (a := ⟨w.heap.size + 1, 0, none⟩) W5.out (fun e => hnb _ e rfl) _

end Go.Proofs.Ytoohnkffclkmhaa.Tr
