/-
  The text of a rule, as the program joins it. Condition: names of at most 10000 bytes, at most 10000 of them.
-/
import Derived.Test.YtimfiaphhomelaaGreatGreadMDecl
import Derived.Test.YtimfiaphhomelaaGreatShelf
namespace Go.Proofs.YtimfiaphhomelaaGreat.Rd
open Go.RowKit Go.Maps
open Go.Proofs.YtimfiaphhomelaaGreat.Tk (Tok tcs cells cells_length cells_snoc Just info_tok cells_three_new)
set_option linter.unusedVariables false
set_option linter.unusedSimpArgs false

/-- The value of a right side. -/
abbrev sideV (s : Side) (sv : Value) : Value := .agg #[.int .i64 s.first.k, .string s.first.s, .int .i64 (s.first.at_ : Int), sv]

theorem joinTail_le (r : List (List UInt8)) (h : ∀ x ∈ r, x.length ≤ 10000) : (Lib.joinTail [32] r).length ≤ r.length * 10001 := by
  induction r with
  | nil => simp [Lib.joinTail]
  | cons x r ih =>
    have h1 := ih fun y hy => h y (List.mem_cons_of_mem _ hy)
    have h2 := h x (by simp)
    simp only [Lib.joinTail, List.map_cons, List.flatten_cons, List.length_append, List.length_cons, List.length_nil] at h1 ⊢
    omega
theorem join_le (x : List UInt8) (r : List (List UInt8)) (h : ∀ y ∈ x :: r, y.length ≤ 10000) : (Lib.join (x :: r) [32]).length ≤ 10000 + r.length * 10001 := by
  rw [Lib.join_cons, List.length_append]
  have := joinTail_le r fun y hy => h y (by simp [hy])
  have := h x (by simp)
  omega

/-- The names so far. -/
def names0 (left : Tok) (l : List Tok) : List ByteArray := left.s :: l.map (·.s)

/-- The loop over symbols. -/
def JLoop (left : Tok) (syms : List Tok) (w : World) (g : Nat) (v i : Value) (wr : World) : Prop :=
  ∃ j, j + g = syms.length ∧ i = .int .i64 (j : Int) ∧ wr.ownsRow w.heap.size 9 1 v (j + 1) ((names0 left (syms.take j)).map .string) ∧ Below w.heap.size w wr

set_option maxRecDepth 100000 in
set_option maxHeartbeats 8000000 in
theorem joined_any {base : Nat} (w : World) (left : Tok) (s : Side) (sv : Value) (hd : Toks base s.syms sv w) (hlen : s.syms.length ≤ 10000) (hl : left.s.size ≤ 10000) (hs : ∀ t ∈ s.syms, t.s.size ≤ 10000) :
    Calls Tryz.prog 111 #[tokV left, sideV s sv] w (Gr.Is (.string (joinedS left s)) w) := by
  obtain ⟨a, c, rfl⟩ := row_shape hd
  obtain ⟨i0, hi, hz0, hz1, hz2⟩ := info_parts It.info_string
  have b1 := Gr.step (Gr.boxed w (.cells #[.int .i64 left.k, .string left.s, .int .i64 (left.at_ : Int)] 75)) (Gr.boxed _ (.cells #[.int .i64 s.first.k, .string s.first.s, .int .i64 (s.first.at_ : Int), .slice a s.syms.length c] 122))
  have B1 := Lib.hid (Gr.step b1 (Gr.boxed _ (.cells #[.string left.s] 9)))
  have O1 := Lib.hid (show ((w.alloc (.cells #[.int .i64 left.k, .string left.s, .int .i64 (left.at_ : Int)] 75)).alloc (.cells #[.int .i64 s.first.k, .string s.first.s, .int .i64 (s.first.at_ : Int), .slice a s.syms.length c] 122)).heap.size = w.heap.size + 1 + 1 by simp)
  have O2 := Lib.hid (World.ownsRow_lit (base := w.heap.size) (e := 9) (size := 1) ((w.alloc (.cells #[.int .i64 left.k, .string left.s, .int .i64 (left.at_ : Int)] 75)).alloc (.cells #[.int .i64 s.first.k, .string s.first.s, .int .i64 (s.first.at_ : Int), .slice a s.syms.length c] 122)) #[.string left.s] 1 (by simp; omega) (by decide) (by simp))
  have HD := Lib.hid hd
  have HS := Lib.hid hs
  have HL := Lib.hid hl
  clear b1 hd hs
  generalize hnn : s.syms.length = nn at *
  have HNN := Lib.hid hnn
  clear hnn
  go_enter Tryz.func111, Tryz.ntmps111
  go_wp2
  go_loopg [5, 14] nn (fun g v i wr => JLoop left s.syms w g v i wr)
  case atStart =>
    refine ⟨0, by rw [HNN.out]; omega, rfl, ?_, B1.out⟩
    have := O2.out
    rw [O1.out] at this
    exact this
  case round =>
    clear O1 O2 B1
    obtain ⟨j, hj, rfl, hO, hB⟩ := hrel
    rw [HNN.out] at hj
    obtain ⟨a5, c5, rfl⟩ := row_shape hO
    have O := Lib.hid hO
    have B := Lib.hid hB
    have hsz : w.heap.size ≤ wr.heap.size := hB.size
    have HD2 := Lib.hid (HD.out.went hB)
    clear hO hB
    by_cases hlt : j < nn
    · have hj2 : j < s.syms.length := by rw [HNN.out]; exact hlt
      obtain ⟨g, c', hv, k0, k1, k2⟩ := HD2.out.get j hj2
      simp only [Value.slice.injEq] at hv
      have ha := hv.1
      clear hv
      subst ha
      have TK := Lib.hid (List.take_succ_eq_append_getElem hj2)
      have hst := HS.out _ (List.getElem_mem hj2)
      generalize s.syms[j] = t at k0 k1 k2 TK hst
      have hg : g < wr.heap.size := World.block_lt_of_cell? wr ⟨g, j * 3, none⟩ k0
      have b2 := Gr.boxed wr (.cells #[.int .i64 t.k, .string t.s, .int .i64 (t.at_ : Int)] 75)
      have B2 := Lib.hid (Gr.step b2 (Gr.boxed _ (.cells #[.string t.s] 9)))
      clear b2
      go_wp2_with (at_builtin; refine wpList_append_own_at _ rfl _ _ 22 rfl w.heap.size 9 i0 (.string ByteArray.empty) 1 16 Tryz.underlying22 hi hz0 hz1 hz2 rfl (by decide) _ _ _ rfl (Sep.ownsRow_at O.out fun g hg => B2.out.block g (O.out.lt g hg).2) ⟨wr.heap.size + 1, 0, none⟩ 1 1 [.string t.s] rfl rfl (by have := cell_one_new (wr.alloc (.cells #[.int .i64 t.k, .string t.s, .int .i64 (t.at_ : Int)] 75)) (.string t.s) 9; simpa using this) (by simp [Value.oneCell']) (by unfold maxLen; omega) (by omega) (by simp; omega) ?_; intro v2 w2 hown2 hg2 hnl hloc; clear hnl hloc; have O2 := Lib.hid hown2; have B3 := Lib.hid (((B.out.alloc hsz _).alloc (by simp; omega) _).grown hg2 (by simp; omega) fun g hg => (O.out.lt g hg).1); clear hown2 hg2)
      go_roundg (nn - (j + 1))
      case rel =>
        refine ⟨j + 1, by rw [HNN.out]; omega, by go_num, ?_, B3.out⟩
        have e : (names0 left (s.syms.take (j + 1))).map Value.string = (names0 left (s.syms.take j)).map Value.string ++ [.string t.s] := by
          rw [TK.out]; simp [names0]
        rw [e]
        exact O2.out
      case measure => omega
    · have hjn : j = nn := by omega
      subst hjn
      have hfull : s.syms.take j = s.syms := List.take_of_length_le (by rw [HNN.out]; omega)
      rw [hfull] at O
      have hxl : (names0 left s.syms).length = j + 1 := by simp [names0, HNN.out]
      obtain ⟨g5, hg5, hlt5⟩ : ∃ g5, a5 = some ⟨g5, 0, none⟩ ∧ g5 < wr.heap.size := by
        rcases O.out.2 with ⟨_, h0⟩ | ⟨g5, cap5, cur5, h5, _, h6, _⟩
        · omega
        · simp only [Value.slice.injEq] at h5
          exact ⟨g5, h5.1, (Array.getElem?_eq_some_iff.1 h6).1⟩
      subst hg5
      have hcap : j + 1 ≤ c5 := by
        rcases O.out.2 with ⟨_, h0⟩ | ⟨_, cap5, cur5, h5, _, h6, h7, _⟩
        · omega
        · simp only [Value.slice.injEq] at h5
          omega
      have hcells := World.ownsRow.cells O.out (g := g5) rfl
      have JC := Lib.hid (Tryz.strings_Join g5 0 c5 (names0 left s.syms) ⟨#[32]⟩ wr (fun k x hk => by
          have := hcells k (.string x) (by simp [hk])
          rwa [WideShapes.add_plain] at this) hlt5 (by omega) (by omega) (by
          have := join_le left.s.data.toList ((s.syms.map (·.s)).map (·.data.toList)) (fun y hy => by
            rcases List.mem_cons.1 hy with rfl | hy
            · exact HL.out
            · obtain ⟨b, hb, rfl⟩ := List.mem_map.1 hy
              obtain ⟨t, ht, rfl⟩ := List.mem_map.1 hb
              exact HS.out t ht)
          simp only [List.length_map, HNN.out] at this
          exact Nat.le_trans this (by omega)))
      rw [hxl] at JC
      have EJ := Lib.hid (show (⟨(Lib.join ((names0 left s.syms).map (·.data.toList)) (⟨#[32]⟩ : ByteArray).data.toList).toArray⟩ : ByteArray) = joinedS left s from rfl)
      rw [EJ.out] at JC
      clear hfull hxl hcells EJ
      generalize hjs : joinedS left s = js at JC
      have HJ := Lib.hid hjs
      clear hjs
      go_wp2_with (go_at_call 46; refine JC.out.mono ?_; rintro e w2 ⟨rfl, hb⟩; have HB := Lib.hid (Gr.step B.out hb); clear hb)
      go_ret
      exact ⟨congrArg (fun z => Ending.returned (Value.string z)) HJ.out.symm, HB.out⟩

end Go.Proofs.YtimfiaphhomelaaGreat.Rd
