/-
  Package arena: leaves: the leaves below a node go to yield.
-/
import Derived.Test.YtoohnkffclkmhaaArenaBelow
namespace Go.Proofs.Ytoohnkffclkmhaa.Tr
open Go.RowKit Go.Maps Go.Shelf
open Go.Proofs.Ytoohnkffclkmhaa.Sep
open Go.Proofs.Ytoohnkffclkmhaa.Rg
open Go.Proofs.Ytoohnkffclkmhaa.Rw (Bk)
open Go.Proofs.Ytoohnkffclkmhaa.Gr (cell_later boxed drawn Is bool_of int_of ivs iv)
attribute [local go_sem] Oper.semAt_some
set_option linter.unusedVariables false
set_option linter.unusedSimpArgs false

set_option maxHeartbeats 8000000 in
set_option maxRecDepth 100000 in
theorem leaves_yields (pv : Value) (S0 K : Nat → Prop) (L : List Nv) (i : Int) (bt bi : Nat) (w0 : World) (h : TrO pv S0 K L w0) (hw : Wf (L.map Prod.fst)) (hfi : Gr.Fits i)
    (h1 : w0.heap[bt]? = some (.cells #[pv] 23 (0, 0))) (h2 : w0.heap[bi]? = some (.cells #[.int .i64 i] 3 (0, 0))) (hN : (visI (L.map Prod.fst) i).length ≤ 1000000) :
    Rg.Yields Try.prog 33 #[.pointer (some ⟨bt, 0, none⟩), .pointer (some ⟨bi, 0, none⟩)] (encN L (lefI (L.map Prod.fst) i)) (lefI (L.map Prod.fst) i).length (oW S0 K bt bi) w0 := by
  intro l J Jx S X W hF hO hin hiX hJ hJx hY h0
  have hOi : Inn (oW S0 K bt bi) w0 := by
    rintro k (hk | hk | rfl | rfl)
    · exact h.inn.1 k hk
    · exact h.inn.2 k hk
    · exact (Array.getElem?_eq_some_iff.1 h1).1
    · exact (Array.getElem?_eq_some_iff.1 h2).1
  have hOW := hOi.le hF.size
  obtain ⟨V, hV⟩ : ∃ V, V = belI (L.map Prod.fst) i := ⟨_, rfl⟩
  obtain ⟨B, hB⟩ : ∃ B, B = lefI (L.map Prod.fst) i := ⟨_, rfl⟩
  have hBV : B = V.filter (isLeaf (L.map Prod.fst)) := by rw [hB, hV]; rfl
  have hVl : ∀ y ∈ V, y.1 < L.length := fun y hy => by have := belI_lt hw y (hV ▸ hy); simpa using this
  rw [← hB] at hY ⊢
  have TW := Lib.hid (show ∀ W1, Fr S W W1 → TrO pv S0 K L W1 from fun W1 hf => h.fr (hF.trans hf (.refl _ _)) (fun x hs hx => hO x hs (.inl hx)) fun x hs hx => hO x hs (.inr (.inl hx)))
  have c0 : W.cell? ⟨bt, 0, none⟩ = some pv := cells_of (cs := #[pv]) ((hF.block bt (hOi bt (.inr (.inr (.inl rfl)))) fun hs => hO bt hs (.inr (.inr (.inl rfl)))).trans h1) (k := 0) (by simp)
  have c1 : W.cell? ⟨bi, 0, none⟩ = some (.int .i64 i) := cells_of (cs := #[.int .i64 i]) ((hF.block bi (hOi bi (.inr (.inr (.inr rfl)))) fun hs => hO bi hs (.inr (.inr (.inr rfl)))).trans h2) (k := 0) (by simp)
  obtain ⟨pa, rfl⟩ := h.ptr
  have YD := Lib.hid (show ∀ (k : Nat) (y : Nat × Bool) (hjl : y.1 < L.length) (S1 : Nat → Prop) (W1 : World), V[k]? = some y → isLeaf (L.map Prod.fst) y = true → St J S (oW S0 K bt bi) W (cntP (isLeaf (L.map Prod.fst)) V k) S1 W1 → YieldAt Fence.wide 0 Try.prog l #[ndv L[y.1]] W1 (Said X J Jx (cntP (isLeaf (L.map Prod.fst)) V k) S1 W1) from
    fun k y hjl S1 W1 hx hp st => by
      have hc := (cnt_yes (p := isLeaf (L.map Prod.fst)) hx hp).1
      rw [← hBV] at hc
      have h := hY (cntP (isLeaf (L.map Prod.fst)) V k) S1 W1 (List.getElem?_eq_some_iff.1 hc).1 st.j st.inn
      unfold encN at h
      have e1 : B.getD (cntP (isLeaf (L.map Prod.fst)) V k) (0, false) = y := by rw [List.getD_eq_getElem?_getD, hc]; rfl
      have e2 : L.getD y.1 nv0 = L[y.1] := by rw [List.getD_eq_getElem?_getD, List.getElem?_eq_getElem hjl]; rfl
      rw [e1, e2] at h
      exact h)
  have ND := Lib.hid (fun (j : Nat) (hjl : j < L.length) => h.node hjl)
  have CY := Lib.hid (show ∀ k y, V[k]? = some y → isLeaf (L.map Prod.fst) y = true → cntP (isLeaf (L.map Prod.fst)) V (k + 1) = cntP (isLeaf (L.map Prod.fst)) V k + 1 from fun k y hx hp => (cnt_yes hx hp).2)
  have CN := Lib.hid (show ∀ k y, V[k]? = some y → isLeaf (L.map Prod.fst) y = false → cntP (isLeaf (L.map Prod.fst)) V (k + 1) = cntP (isLeaf (L.map Prod.fst)) V k from fun k y hx hp => cnt_no hx hp)
  have CF := Lib.hid (show cntP (isLeaf (L.map Prod.fst)) V V.length = B.length from by rw [hBV]; exact cnt_full _ _)
  have CL := Lib.hid (show ∀ k y, V[k]? = some y → isLeaf (L.map Prod.fst) y = true → cntP (isLeaf (L.map Prod.fst)) V k + 1 ≤ B.length from fun k y hx hp => by rw [← CY.out k y hx hp, hBV]; exact cnt_le _ _ _)
  -- the world of the range
  obtain ⟨Wy, hWy⟩ : ∃ Wy, W.alloc (.cells #[.func (.yield l) #[] #[]] 77) = Wy := ⟨_, rfl⟩
  have sy : Wy.heap.size = W.heap.size + 1 := by rw [← hWy]; simp
  have By : Below W.heap.size W Wy := hWy ▸ boxed _ _
  have my : Wy.heap[W.heap.size]? = some (yBox l) := hWy ▸ World.alloc_heap_new _ _
  have c0' := cell_later By c0
  have c1' := cell_later By c1
  have WA := Lib.hid (below_any pa i Wy)
  have NX := Lib.hid (show ∀ w2, w2 = (Wy.alloc (.cells #[.pointer pa] 23)).alloc (.cells #[.int .i64 i] 3) →
      Rg.Yields Try.prog 40 #[.pointer (some ⟨W.heap.size + 1, 0, none⟩), .pointer (some ⟨W.heap.size + 1 + 1, 0, none⟩)] (encN L V) V.length (oW S0 K (W.heap.size + 1) (W.heap.size + 1 + 1)) w2 ∧ W.heap.size + 3 = w2.heap.size ∧
      Off S (oW S0 K (W.heap.size + 1) (W.heap.size + 1 + 1)) ∧ Inn (oW S0 K (W.heap.size + 1) (W.heap.size + 1 + 1)) w2 ∧ Inn S w2 ∧ Inn X w2 ∧ rgI J S (oW S0 K bt bi) W l (cntP (isLeaf (L.map Prod.fst)) V) 0 S w2 ∧ Fr S W w2 from by
    rintro w2 rfl
    have b1 := boxed Wy (.cells #[.pointer pa] 23)
    have b2 := boxed (Wy.alloc (.cells #[.pointer pa] 23)) (.cells #[.int .i64 i] 3)
    have b3 := Gr.step b1 b2
    have b4 := Gr.step By b3
    have e1 : ((Wy.alloc (.cells #[.pointer pa] 23)).alloc (.cells #[.int .i64 i] 3)).heap[W.heap.size + 1]? = some (.cells #[.pointer pa] 23 (0, 0)) := by
      rw [← sy]
      exact (b2.block _ (by simp)).trans (World.alloc_heap_new _ _)
    have e2 : ((Wy.alloc (.cells #[.pointer pa] 23)).alloc (.cells #[.int .i64 i] 3)).heap[W.heap.size + 1 + 1]? = some (.cells #[.int .i64 i] 3 (0, 0)) := by
      have := World.alloc_heap_new (Wy.alloc (.cells #[.pointer pa] 23)) (.cells #[.int .i64 i] 3)
      rwa [World.size_alloc, sy] at this
    have hS2 : Fr S W ((Wy.alloc (.cells #[.pointer pa] 23)).alloc (.cells #[.int .i64 i] 3)) := .of_below b4
    have hsz : ((Wy.alloc (.cells #[.pointer pa] 23)).alloc (.cells #[.int .i64 i] 3)).heap.size = W.heap.size + 3 := by simp [sy]
    refine ⟨?_, hsz.symm, ?_, ?_, hin.le b4.size, hiX.le b4.size, ⟨?_, ?_⟩, hS2⟩
    · rw [hV]
      exact below_yields (.pointer pa) S0 K L i _ _ _ (TW.out _ hS2) hw hfi e1 e2 hN
    · rintro x hs (hx | hx | rfl | rfl)
      · exact hO x hs (.inl hx)
      · exact hO x hs (.inr (.inl hx))
      · have := hin _ hs
        omega
      · have := hin _ hs
        omega
    · rintro x (hx | hx | rfl | rfl)
      · have := hOW x (.inl hx)
        omega
      · have := hOW x (.inr (.inl hx))
        omega
      · omega
      · omega
    · rw [cnt_zero]
      exact (St.start (O := oW S0 K bt bi) h0 hin hO).went hJ b4
    · exact ⟨Nat.le_refl _, fun hs => by have := hin _ hs; omega, (b3.block _ (by omega)).trans my⟩)
  have OW := Lib.hid hOW
  have HV := Lib.hid hV
  clear hY h0 hF hO h1 h2 hOi hOW h TW c0 c1 By my hin hB hBV hV
  refine calls_up (n := 9) (o := none) ?_
  refine callsIn_of_wp_marks Try.func33 rfl trivial ?_ rfl
  simp only [Try.ntmps33, List.size_toArray, List.length_cons, List.length_nil, Nat.reduceAdd, Nat.reduceSub, Array.replicate_succ, Array.replicate_zero, List.push_toArray, List.append_toArray, List.nil_append, List.cons_append]
  gi_wp2_with (refine ⟨trivial, ?_⟩; gi_at_call 24; refine (calls_any WA.out).mono ?_; rintro e w2 ⟨rfl, hw2⟩; have X2 := Lib.hid (NX.out w2 hw2); clear hw2)
  clear hWy c0' c1' NX WA
  clear sy
  obtain ⟨hyl, hsz, hoff, hoi, his, hix, hri, hfr⟩ := X2.out
  have HS2 := Lib.hid hsz
  refine range_law (n := 9) (gf := 40) (lb := #[.pointer (some ⟨W.heap.size + 1, 0, none⟩), .pointer (some ⟨W.heap.size + 1 + 1, 0, none⟩)]) rfl (enters_of Try.func40 (by kernel_rfl) rfl) (encs := encN L V) hyl (fun _ => rfl)
    (rgI J S (oW S0 K bt bi) W l (cntP (isLeaf (L.map Prod.fst)) V)) (rgX Jx S X W B.length) (rgI_holds hJ (by omega) _ _) (rgX_holds hJx (by omega) _) S X hoff hoi his hix hri ?round ?done ?stop
  case round =>
    rintro l' k S1 W1 hk hl hl2 hnl ⟨st, mb⟩ hin1 he1 hf1
    obtain ⟨y, hx⟩ : ∃ x, V[k]? = some x := ⟨_, List.getElem?_eq_getElem hk⟩
    have hjl := hVl y (List.mem_of_getElem? hx)
    obtain ⟨n, a2, c3, hnd⟩ := ND.out y.1 hjl
    have e1 : V.getD k (0, false) = y := by rw [List.getD_eq_getElem?_getD, hx]; rfl
    have e2 : L.getD y.1 nv0 = (n, .slice a2 n.kids.length c3) := by rw [List.getD_eq_getElem?_getD, List.getElem?_eq_getElem hjl, ← hnd]; rfl
    have hlf : isLeaf (L.map Prod.fst) y = !n.inner := by
      have hjl2 : y.1 < (L.map Prod.fst).length := by simpa using hjl
      unfold isLeaf
      rw [ndAt_get hjl2, List.getElem_map, hnd]
    unfold encN
    rw [e1, e2]
    unfold ndv
    dsimp only
    have AF := Lib.hid (show ∀ w4, Fr (fun x => x = l') (W1.alloc (.cells #[.int .i64 n.sym, .int .i64 n.leaf, .int .i64 n.rule, .slice a2 n.kids.length c3, .bool n.inner, .bool n.taken] 51)) w4 → St J S (oW S0 K bt bi) W (cntP (isLeaf (L.map Prod.fst)) V k) S1 w4 ∧ Mine W S1 w4 W.heap.size (yBox l) ∧
        Bk W1.heap.size #[.int .i64 n.sym, .int .i64 n.leaf, .int .i64 n.rule, .slice a2 n.kids.length c3, .bool n.inner, .bool n.taken] 51 w4 from fun w4 h4 =>
      ⟨(st.alloc hJ _).own hJ h4 (by rintro y rfl; exact ⟨by omega, hnl⟩), (mb.alloc _).own h4 (by omega), (Bk.new W1 _ _ _ rfl).fr h4 (by omega)⟩)
    clear e1 e2 st mb hf1 hyl hoff hoi his hix hri hfr X2
    gi_wp2
    refine ⟨(Fr.refl _ W1).alloc _, fun w4 h4 hs4 => ?_⟩
    obtain ⟨st4, mb4, q4⟩ := AF.out w4 h4
    have ST4 := Lib.hid st4
    have MB4 := Lib.hid mb4
    have HS4 := Lib.hid hs4
    have d0 := q4.cell (j := 0) rfl
    have d1 := q4.cell (j := 1) rfl
    have d2 := q4.cell (j := 2) rfl
    have d3 := q4.cell (j := 3) rfl
    have d4 := q4.cell (j := 4) rfl
    have d5 := q4.cell (j := 5) rfl
    have d6 := cells_of (cs := #[.func (.yield l) #[] #[]]) mb4.2.2 (k := 0) (by simp)
    cases hni : n.inner with
    | true =>
      rw [hni] at hlf d4
      have EN := Lib.hid (show ∃ S', Ext S' S1 W1 ∧ Fr (fun x => S1 x ∨ W1.heap.size ≤ x) w4 w4 ∧ Inn S' w4 ∧ rgI J S (oW S0 K bt bi) W l (cntP (isLeaf (L.map Prod.fst)) V) (k + 1) S' w4 from
        ⟨S1, .refl _ _, .refl _ _, ST4.out.inn, by rw [rgI, CN.out k y hx hlf]; exact ⟨ST4.out, MB4.out⟩⟩)
      clear AF st4 mb4 q4 hs4
      gi_wp2
      refine ⟨fun _ h => (by cases h), ?_⟩
      gi_wp2
      exact EN.out
    | false =>
      rw [hni] at hlf d4
      have hyd := YD.out k y hjl S1 w4 hx hlf st4
      rw [hnd] at hyd
      unfold ndv at hyd
      dsimp only at hyd
      rw [hni] at hyd
      obtain ⟨fn, tm, asg, bd, hy, hRd⟩ := hyd
      have hcl := CL.out k y hx hlf
      clear AF st4 mb4 q4 hs4 h4
      gi_wp2
      refine (round_any hRd).mono ?_
      rintro e w5 ⟨S6, hin6, (⟨rfl, he, hf, hj5⟩ | ⟨rfl, he, hf, hj5⟩)⟩
      · have EN := Lib.hid (show ∃ S', Ext S' S1 W1 ∧ Fr (fun x => S1 x ∨ W1.heap.size ≤ x) w4 w5 ∧ Inn S' w5 ∧ rgI J S (oW S0 K bt bi) W l (cntP (isLeaf (L.map Prod.fst)) V) (k + 1) S' w5 from
          ⟨S6, fun y hy => (he y hy).imp id fun h => by have := HS4.out; simp at this; omega, hf.mono fun y hy => .inl hy, hin6, by rw [rgI, CY.out k y hx hlf]; exact ⟨ST4.out.then OW.out he hf hin6 hj5, MB4.out.then he hf⟩⟩)
        clear hy hRd he hf hj5 d0 d1 d2 d3 d4 d5 d6
        gi_wp2
        exact EN.out
      · have EN := Lib.hid (show ∃ S', Ext S' (Or2 S1 X) W1 ∧ Fr (fun x => Or2 S1 X x ∨ W1.heap.size ≤ x) w4 w5 ∧ Inn S' w5 ∧ rgX Jx S X W B.length .ret (k + 1) S' w5 from
          ⟨S6, fun y hy => (he y hy).imp id fun h => by have := HS4.out; simp at this; omega, hf.mono fun y hy => .inl hy, hin6, rfl, _, hcl, ST4.out.stop he hf hin6 hj5⟩)
        clear hy hRd he hf hj5 d0 d1 d2 d3 d4 d5 d6
        gi_wp2
        exact EN.out
  case done =>
    rintro S' W1 ⟨st, mb⟩ hin1 he1 hf1 hD hnD
    have EN := Lib.hid (show ∀ w', Fr (fun x => x ∈ [w2.heap.size]) W1 w' → ∀ v, (∃ v', Ending.returned v = .returned v') ∧ ∃ S', Inn S' w' ∧ ((Ext S' S W ∧ Fr S W w' ∧ J B.length S' w') ∨ (Ext S' (Or2 S X) W ∧ Fr (Or2 S X) W w' ∧ ∃ k, k ≤ B.length ∧ Jx k S' w')) from fun w' hf v => by
      have s2 := st.own hJ hf fun x hx => by rw [List.mem_singleton] at hx; subst hx; exact ⟨by omega, hnD⟩
      rw [CF.out] at s2
      exact ⟨⟨v, rfl⟩, S', s2.inn, .inl ⟨s2.ext, s2.fr, s2.j⟩⟩)
    have LM := Lib.hid (show ∀ (fn : Func) (tmps : Array Value) (R : Ending → World → Prop), (∀ w', Fr (fun x => x ∈ [w2.heap.size]) W1 w' → ∃ v, (results fn tmps).run Try.prog w' = .ok v w' ∧ R (.returned v) w') → LeavesInM Fence.wide 9 Try.prog fn tmps R [{ target := .collected w2.heap.size, args := #[] }] .returning W1 from
      fun fn tmps R hR => leaves_marks [w2.heap.size] W1 (by simp) (fun D hD' => by rw [List.mem_singleton] at hD'; subst hD'; exact hD) hR)
    clear st mb hin1 he1 hf1 hD hnD hyl hoff hoi his hix hri hfr X2
    gi_wp2
    refine LM.out _ _ _ ?_
    exact fun w' hf => ⟨_, results_none rfl _ _ _, EN.out w' hf _⟩
  case stop =>
    rintro c k S' W1 hk ⟨rfl, k', hk', st⟩ hin1 he1 hf1 hD hnD
    have EN := Lib.hid (show ∀ w', Fr (fun x => x ∈ [w2.heap.size]) W1 w' → ∀ v, (∃ v', Ending.returned v = .returned v') ∧ ∃ S', Inn S' w' ∧ ((Ext S' S W ∧ Fr S W w' ∧ J B.length S' w') ∨ (Ext S' (Or2 S X) W ∧ Fr (Or2 S X) W w' ∧ ∃ k, k ≤ B.length ∧ Jx k S' w')) from fun w' hf v => by
      have s2 := st.own hJx hf fun x hx => by rw [List.mem_singleton] at hx; subst hx; exact ⟨by omega, hnD⟩
      exact ⟨⟨v, rfl⟩, S', s2.inn, .inr ⟨s2.ext, s2.fr, k', hk', s2.j⟩⟩)
    have LM := Lib.hid (show ∀ (fn : Func) (tmps : Array Value) (R : Ending → World → Prop), (∀ w', Fr (fun x => x ∈ [w2.heap.size]) W1 w' → ∃ v, (results fn tmps).run Try.prog w' = .ok v w' ∧ R (.returned v) w') → LeavesInM Fence.wide 9 Try.prog fn tmps R [{ target := .collected w2.heap.size, args := #[] }] .returning W1 from
      fun fn tmps R hR => leaves_marks [w2.heap.size] W1 (by simp) (fun D hD' => by rw [List.mem_singleton] at hD'; subst hD'; exact hD) hR)
    clear st hin1 he1 hf1 hD hnD hyl hoff hoi his hix hri hfr X2
    gi_wp2
    refine LM.out _ _ _ ?_
    exact fun w' hf => ⟨_, results_none rfl _ _ _, EN.out w' hf _⟩

end Go.Proofs.Ytoohnkffclkmhaa.Tr
