/-
  The maker: the number of a name, of the names of a right side. Condition: names fit a machine, at most 10000 symbols.
-/
import Derived.Test.YtimfiaphhomelaaGreatGreadMRule
import Derived.Test.YtimfiaphhomelaaGreatGramOf
namespace Go.Proofs.YtimfiaphhomelaaGreat.Rd
open Go.RowKit Go.Maps
open Go.Proofs.YtimfiaphhomelaaGreat.Tk (Tok tcs cells cells_length cells_snoc Just info_tok cells_three_new)
set_option linter.unusedVariables false
set_option linter.unusedSimpArgs false

theorem place_bounds (L : List ByteArray) (s : ByteArray) : -1 ≤ It.place L s ∧ It.place L s ≤ (L.length : Int) := by
  have := @It.num_le L s
  unfold It.place
  split <;> omega

set_option maxRecDepth 100000 in
set_option maxHeartbeats 2000000 in
theorem number_any {m : Nat} {S : Nat → Prop} {lf : List ByteArray} {st : MSt} (w : World) (h : MAt m S lf st w) (s : ByteArray) (hs : s.size ≤ maxLen) :
    Calls Tryz.prog 90 #[.pointer (some ⟨m, 0, none⟩), .string s] w (Gr.Is (.int .i64 (numI st s)) w) := by
  obtain ⟨b1, n1, b2, p1, p2, S1, S2, D1, D2, h⟩ := h
  have c2 := h.c2
  have c3 := h.c3
  have hm := World.block_lt_of_cell? w ⟨m, 2, none⟩ c2
  have FI := Lib.hid (fun w1 (hb : Below w.heap.size w w1) => It.find_any w1 (h.nm1.went hb) s hs)
  have FN := Lib.hid (fun w1 (hb : Below w.heap.size w w1) => It.find_any w1 (h.nm2.went hb) s hs)
  have LN := Lib.hid (fun w1 (hb : Below w.heap.size w w1) => It.len_any w1 (h.nm1.went hb))
  have l1 := h.nm1.good.2
  have l2 := h.nm2.good.2
  have q1 := place_bounds st.L1 s
  have q2 := place_bounds st.L2 s
  unfold numI
  clear h
  cases hi : It.isIn st.L1 s with
  | true =>
    rw [It.place_in hi] at FI q1
    simp only [if_true]
    generalize It.num st.L1 s = k at *
    clear hi
    go_enter Tryz.func90, Tryz.ntmps90
    go_wp2_with (go_at_call 109; refine (FI.out _ (.refl _ _)).mono ?_; rintro e w' ⟨rfl, rfl⟩)
    go_ret
    exact ⟨Gr.int_of (by omega), .refl _ _⟩
  | false =>
    rw [It.place_out hi] at FI q1
    simp only [Bool.false_eq_true, if_false]
    generalize It.place st.L2 s = pl at *
    generalize st.L1.length = n at *
    clear hi
    go_enter Tryz.func90, Tryz.ntmps90
    go_wp2_with (go_at_call 109; refine (FI.out _ (.refl _ _)).mono ?_; rintro e w' ⟨rfl, rfl⟩)
    go_quiet (first
      | (go_at_call 89; exact Calls.quiet_of_same ((LN.out _ (drawnN _ _)).mono fun _ _ h => ⟨h.1, h.2.symm⟩))
      | (go_at_call 109; exact Calls.quiet_of_same ((FN.out _ (drawnN _ _)).mono fun _ _ h => ⟨h.1, h.2.symm⟩)))
    go_wp2
    go_ret
    exact ⟨Gr.int_of (by omega), drawnN _ _⟩

/-- Numbers of the call's own in a row. -/
def IntsV (base : Nat) (X : List Int) (v : Value) (w : World) : Prop := w.ownsRow base 3 1 v X.length (Gr.ivs X)
theorem IntsV.went {base : Nat} {X : List Int} {v : Value} {w w' : World} (h : IntsV base X v w) (hb : Below w.heap.size w w') : IntsV base X v w' := Sep.ownsRow_at h fun g hg => hb.block g (h.lt g hg).2

/-- Numbers come back. -/
def GaveI (X : List Int) (w : World) (e : Ending) (w' : World) : Prop := ∃ v, e = .returned v ∧ IntsV w.heap.size X v w' ∧ Below w.heap.size w w'

def NuLoop (st : MSt) (syms : List Tok) (w : World) (g : Nat) (v i : Value) (wr : World) : Prop :=
  ∃ j, j + g = syms.length ∧ i = .int .i64 (j : Int) ∧ wr.ownsRow w.heap.size 3 1 v j (Gr.ivs ((syms.take j).map fun t => numI st t.s)) ∧ Below w.heap.size w wr

theorem ivs_snoc (X : List Int) (x : Int) : Gr.ivs (X ++ [x]) = Gr.ivs X ++ [.int .i64 x] := by simp [Gr.ivs, Gr.iv]

set_option maxRecDepth 100000 in
set_option maxHeartbeats 8000000 in
theorem numbers_any {m base : Nat} {S : Nat → Prop} {lf : List ByteArray} {st : MSt} (w : World) (h : MAt m S lf st w) (s : Side) (sv : Value) (hd : Toks base s.syms sv w) (hlen : s.syms.length ≤ 10000) (hs : ∀ t ∈ s.syms, t.s.size ≤ 10000) :
    Calls Tryz.prog 91 #[.pointer (some ⟨m, 0, none⟩), sideV s sv] w (GaveI (s.syms.map fun t => numI st t.s) w) := by
  obtain ⟨a, c, rfl⟩ := row_shape hd
  obtain ⟨i0, hi, hz0, hz1, hz2⟩ := info_parts Gr.info_int
  have B1 := Lib.hid (Gr.boxed w (.cells #[.int .i64 s.first.k, .string s.first.s, .int .i64 (s.first.at_ : Int), .slice a s.syms.length c] 122))
  have H := Lib.hid h
  have HD := Lib.hid hd
  have HS := Lib.hid hs
  clear h hd hs
  generalize hnn : s.syms.length = nn at *
  have HNN := Lib.hid hnn
  clear hnn
  go_enter Tryz.func91, Tryz.ntmps91
  go_wp2
  go_loopg [5, 11] nn (fun g v i wr => NuLoop st s.syms w g v i wr)
  case atStart => exact ⟨0, by rw [HNN.out]; omega, rfl, World.ownsRow_nil _ _ _ _, B1.out⟩
  case round =>
    clear B1
    obtain ⟨j, hj, rfl, hO, hB⟩ := hrel
    rw [HNN.out] at hj
    obtain ⟨a5, c5, rfl⟩ := row_shape hO
    have O := Lib.hid hO
    have B := Lib.hid hB
    have hsz : w.heap.size ≤ wr.heap.size := hB.size
    have HD2 := Lib.hid (HD.out.went hB)
    clear hO hB
    by_cases hlt : j < nn
    · have hj2 : j < s.syms.length := by rw [HNN.out]; exact hlt
      obtain ⟨g, c', hv, k0, k1, k2⟩ := HD2.out.get j hj2
      simp only [Value.slice.injEq] at hv
      have ha := hv.1
      clear hv
      subst ha
      have TK := Lib.hid (List.take_succ_eq_append_getElem hj2)
      have hst := HS.out _ (List.getElem_mem hj2)
      generalize s.syms[j] = t at k0 k1 k2 TK hst
      have hg : g < wr.heap.size := World.block_lt_of_cell? wr ⟨g, j * 3, none⟩ k0
      have b2 := Gr.boxed wr (.cells #[.int .i64 t.k, .string t.s, .int .i64 (t.at_ : Int)] 75)
      have B2 := Lib.hid b2
      have NC := Lib.hid (number_any _ (H.out.went (Gr.step B.out b2)) t.s (by unfold maxLen; omega))
      clear b2
      generalize hx : numI st t.s = x at NC
      have HX := Lib.hid hx
      clear hx
      go_wp2_with (first
        | (go_at_call 90; refine NC.out.mono ?_; rintro e w1 ⟨rfl, hb⟩; have B3 := Lib.hid (Gr.step B2.out hb); have hs3 : wr.heap.size < w1.heap.size := Nat.lt_of_lt_of_le (by simp) hb.size; clear hb)
        | (at_builtin; refine wpList_append_own_at _ rfl _ _ 38 rfl w.heap.size 3 i0 (.int .i64 0) 1 8 Tryz.underlying38 hi hz0 hz1 hz2 rfl (by decide) _ _ _ rfl (Sep.ownsRow_at O.out fun g hg => (Gr.step B3.out (Gr.boxed _ (.cells #[.int .i64 x] 3))).block g (O.out.lt g hg).2) ⟨w1.heap.size, 0, none⟩ 1 1 [.int .i64 x] rfl rfl (by have := cell_one_new w1 (.int .i64 x) 3; simpa using this) (by simp [Value.oneCell']) (by unfold maxLen; omega) (by omega) (by simp; omega) ?_; intro v2 w2 hown2 hg2 hnl hloc; clear hnl hloc; have O2 := Lib.hid hown2; have B4 := Lib.hid ((Gr.step (Gr.step B.out B3.out) (Gr.boxed _ (.cells #[.int .i64 x] 3))).grown hg2 (by simp; omega) fun g hg => (O.out.lt g hg).1); clear hown2 hg2))
      go_roundg (nn - (j + 1))
      case rel =>
        refine ⟨j + 1, by rw [HNN.out]; omega, by go_num, ?_, B4.out⟩
        have e : Gr.ivs ((s.syms.take (j + 1)).map fun t => numI st t.s) = Gr.ivs ((s.syms.take j).map fun t => numI st t.s) ++ [.int .i64 x] := by
          rw [TK.out, List.map_append, List.map_singleton, HX.out, ivs_snoc]
        rw [e]
        exact O2.out
      case measure => omega
    · have hjn : j = nn := by omega
      subst hjn
      have hfull : s.syms.take j = s.syms := List.take_of_length_le (by rw [HNN.out]; omega)
      rw [hfull] at O
      have O3 := Lib.hid (show IntsV w.heap.size (s.syms.map fun t => numI st t.s) (.slice a5 j c5) wr from by
        unfold IntsV
        rw [List.length_map, HNN.out]
        exact O.out)
      clear O hfull
      go_wp2
      go_ret
      exact ⟨_, rfl, O3.out, B.out⟩

end Go.Proofs.YtimfiaphhomelaaGreat.Rd
