/-
  Package gtok: All: the tokens of a text, or the first error. Condition: the library's variable MaxLen holds a number; a string fits a machine.
-/
import Derived.Test.YtimfiaphhomelaaGreatGtokAt
import Derived.Deep.LoopGhost
import Derived.Maps.AppendAt
namespace Go.Proofs.YtimfiaphhomelaaGreat.Tk
open Go.RowKit Go.Maps
set_option linter.unusedVariables false
set_option linter.unusedSimpArgs false

/-- A token's cells. -/
def tcs (t : Tok) : List Value := [.int .i64 t.k, .string t.s, .int .i64 (t.at_ : Int)]
def cells (T : List Tok) : List Value := T.flatMap tcs
theorem cells_length (T : List Tok) : (cells T).length = T.length * 3 := by
  induction T with
  | nil => rfl
  | cons t T ih => simp only [cells, List.flatMap_cons, List.length_append, List.length_cons] at ih ⊢; simp only [tcs, List.length_cons, List.length_nil]; omega
theorem cells_snoc (T : List Tok) (t : Tok) : cells (T ++ [t]) = cells T ++ tcs t := by simp [cells]

/-- What All hands back. -/
def AllIs (r : Res) (w : World) (e : Ending) (w' : World) : Prop :=
  match r with
  | .ok T => ∃ v, e = .returned (.tuple #[v, .nilIface]) ∧ w'.ownsRow w.heap.size 75 3 v T.length (cells T) ∧ Below w.heap.size w w'
  | .bad n p => e = .returned (.tuple #[.slice none 0 0, .iface 82 (.agg #[.int .i64 n, .int .i64 (p : Int)])]) ∧ Below w.heap.size w w'

theorem info_tok : (Tryz.prog.info? 75).map (fun i => (i.zero, i.size, i.bytes)) = some (some (.agg #[.int .i64 0, .string ByteArray.empty, .int .i64 0]), 3, 32) := by kernel_rfl

theorem cells_three_new (w : World) (x y z : Value) (t : TypeId) (n : Nat) (hn : n = w.heap.size) : ∀ j u, [x, y, z][j]? = some u → (w.alloc (.cells #[x, y, z] t)).cell? ((⟨n, 0, none⟩ : Addr).add j) = some u := by
  subst hn
  intro j u hj
  match j, hj with
  | 0, hj => simp at hj; subst hj; simp [Addr.add]
  | 1, hj => simp at hj; subst hj; simp [Addr.add]
  | 2, hj => simp at hj; subst hj; simp [Addr.add]
  | j + 3, hj => simp at hj

theorem extract_mk (s : ByteArray) (a n : Nat) (k : Int) : mk k (s.data.toList.drop a) n a = ⟨k, s.extract a (a + n), a⟩ := by
  unfold mk
  congr 1
  apply ByteArray.ext
  apply Array.ext'
  rw [Lib.extract_data]
  simp

/-- A cell of a block that is newer than the row stays behind an append to the row. -/
theorem cell_kept {w w1 w' : World} {base n size : Nat} {e : TypeId} {v : Value} {xs : List Value} {b o : Nat} {u : Value} (hc : w1.cell? ⟨b, o, none⟩ = some u) (hg : w1.grownBy w' v.ownBlock) (hO : w.ownsRow base e size v n xs) (hb : w.heap.size ≤ b) : w'.cell? ⟨b, o, none⟩ = some u :=
  (World.cell?_of_block (a := ⟨b, o, none⟩) (hg.block b (World.block_lt_of_cell? w1 ⟨b, o, none⟩ hc) (fun e => by have := (hO.lt b e.symm).2; omega))).trans hc

/-- The loop's relation. -/
def At (s : ByteArray) (r : Res) (w : World) (g : Nat) (v i : Value) (wr : World) : Prop :=
  ∃ (a : Nat) (T : List Tok), a + g = s.size ∧ i = .int .i64 (a : Int) ∧ T.length ≤ a ∧ wr.ownsRow w.heap.size 75 3 v T.length (cells T) ∧ LexFrom s.data.toList a T r ∧ Below w.heap.size w wr

set_option maxRecDepth 100000 in
set_option maxHeartbeats 4000000 in
theorem all_any (s : ByteArray) (r : Res) (w : World) (h : Lexes s.data.toList r) (hs : s.size ≤ 140737488355328) (hm : MaxLen w) :
    Calls Tryz.prog 25 #[.string s] w (AllIs r w) := by
  by_cases hl : 8192 < s.size
  · obtain rfl : r = .bad 5 0 := by unfold Lexes at h; rw [if_pos (show 8192 < s.data.toList.length from hl)] at h; exact h
    go_enter Tryz.func25, Tryz.ntmps25
    go_wp2
    go_step3
    go_wp2_with (go_at_call 27; refine (new_fault _ _ _ (by decide)).mono ?_; rintro e w' ⟨rfl, rfl⟩)
    rw [Exit.noGoto_ret]
    go_ret2
    exact ⟨rfl, Below.refl _ _⟩
  · have HL := Lib.hid (lexFrom_zero (l := s.data.toList) hl h)
    have HM := Lib.hid hm
    obtain ⟨i0, hi, hz0, hz1, hz2⟩ := info_parts info_tok
    have h8 : s.size ≤ 8192 := by omega
    clear h hm hl
    go_enter Tryz.func25, Tryz.ntmps25
    go_wp2
    go_step3
    go_wp2
    go_step3
    go_wp2
    go_loopg [4, 5] s.size (fun g v i wr => At s r w g v i wr)
    case atStart => exact ⟨0, [], by omega, rfl, Nat.le_refl _, World.ownsRow_nil _ _ _ _, HL.out, Below.refl _ _⟩
    case round =>
      clear HL
      obtain ⟨a, T, hag, rfl, hTa, hO, hF, hB⟩ := hrel
      have O := Lib.hid hO
      have F := Lib.hid hF
      have B := Lib.hid hB
      have M := Lib.hid (HM.out.keep hB)
      clear hO hF hB
      have ha : a ≤ s.size := by omega
      obtain ⟨y, hy⟩ : ∃ y, (stepL (s.data.toList.drop a)).from a = y := ⟨_, rfl⟩
      have RA := Lib.hid (readerAt_any s a y wr ha hy h8 M.out)
      cases hst : stepL (s.data.toList.drop a) with
      | bad e p =>
        rw [hst] at hy
        have R := Lib.hid (lexFrom_bad F.out hst)
        subst hy
        clear hst
        go_wp2_with (first
          | (go_at_call 50; refine RA.out.mono ?_; rintro e1 w1 ⟨v1, rfl, hf, hb⟩; have HF := Lib.hid hf; have B := Lib.hid (Gr.step B.out hb); clear hf hb)
          | (go_at_call 49; refine (HF.out _ (Below.refl _ _)).mono ?_; rintro e1 w1 ⟨rfl, hb⟩; have B := Lib.hid (Gr.step B.out hb); clear hb; simp only [Step.from, tokRes]))
        rw [Exit.noGoto_ret]
        go_ret2
        rw [R.out]
        exact ⟨by simp, by first | exact B.out | exact B.out.alloc B.out.size _⟩
      | tok k n =>
        rw [hst] at hy
        have EN := ends_from (s := s) (a := a) (y := .tok k (a + n)) (by rw [hst]; rfl) ha
        obtain ⟨hn1, hn2⟩ := EN
        subst hy
        rcases stepL_tok hst with ⟨rfl, rfl, hnil⟩ | ⟨hk, hn, hn3⟩
        · have R := Lib.hid (lexFrom_end F.out hst)
          have hT3 : T.length ≤ 8192 := by omega
          clear hst hnil
          go_wp2_with (first
            | (go_at_call 50; refine RA.out.mono ?_; rintro e1 w1 ⟨v1, rfl, hf, hb⟩; have HF := Lib.hid hf; have B := Lib.hid (Gr.step B.out hb); have O := Lib.hid (Sep.ownsRow_at O.out fun g hg => hb.block g (O.out.lt g hg).2); clear hf hb)
            | (go_at_call 49; refine (HF.out _ (Below.refl _ _)).mono ?_; rintro e1 w1 ⟨rfl, hb⟩; have B := Lib.hid (Gr.step B.out hb); have O := Lib.hid (Sep.ownsRow_at O.out fun g hg => hb.block g (O.out.lt g hg).2); clear hb; simp only [Step.from, tokRes])
            | (at_builtin; refine wpList_append_own_at _ rfl _ _ 46 rfl w.heap.size 75 i0 (.agg #[.int .i64 0, .string ByteArray.empty, .int .i64 0]) 3 32 Tryz.underlying46 hi hz0 hz1 hz2 rfl (by decide) _ _ _ rfl ((O.out.alloc _).alloc _) ⟨w1.heap.size + 1, 0, none⟩ 1 1 [.int .i64 0, .string ⟨#[]⟩, .int .i64 (a : Int)] rfl rfl (cells_three_new _ _ _ _ _ _ (by simp)) (by simp [Value.oneCell']) (by unfold maxLen; omega) (by omega) (by have := B.out.size; simp; omega) ?_; intro v2 w2 hown2 hg2 hnl hloc; clear hnl; have O2 := Lib.hid hown2; have B2 := Lib.hid (((B.out.alloc B.out.size _).alloc (by have := B.out.size; simp; omega) _).grown hg2 (by have := B.out.size; simp; omega) fun g hg => (O.out.lt g hg).1); clear hown2 hg2 hloc))
          rw [Exit.noGoto_ret]
          go_ret2
          rw [R.out]
          refine ⟨v2, rfl, ?_, B2.out⟩
          rw [cells_snoc, List.length_append]
          exact O2.out
        · by_cases hgap : k = -1
          · subst hgap
            have F2 := Lib.hid (lexFrom_gap F.out hst)
            clear hst
            go_wp2_with (first
              | (go_at_call 50; refine RA.out.mono ?_; rintro e1 w1 ⟨v1, rfl, hf, hb⟩; have HF := Lib.hid hf; have B := Lib.hid (Gr.step B.out hb); have O := Lib.hid (Sep.ownsRow_at O.out fun g hg => hb.block g (O.out.lt g hg).2); clear hf hb)
              | (go_at_call 49; refine (HF.out _ (Below.refl _ _)).mono ?_; rintro e1 w1 ⟨rfl, hb⟩; have B := Lib.hid (Gr.step B.out hb); have O := Lib.hid (Sep.ownsRow_at O.out fun g hg => hb.block g (O.out.lt g hg).2); clear hb; simp only [Step.from, tokRes]))
            go_roundg (s.size - (a + n))
            case rel => exact ⟨a + n, T, by omega, by go_num, by omega, by first | exact O.out.alloc _ | exact O.out, F2.out, by first | exact B.out.alloc B.out.size _ | exact B.out⟩
            case measure => omega
          · have F2 := Lib.hid (lexFrom_tok F.out hst hk hgap)
            rw [extract_mk] at F2
            have hT3 : T.length ≤ 8192 := by omega
            have hk0 : (k == 0) = false := by simpa using hk
            have hk1 : (k == -1) = false := by simpa using hgap
            clear hst hk hgap
            go_wp2_with (first
              | (go_at_call 50; refine RA.out.mono ?_; rintro e1 w1 ⟨v1, rfl, hf, hb⟩; have HF := Lib.hid hf; have B := Lib.hid (Gr.step B.out hb); have O := Lib.hid (Sep.ownsRow_at O.out fun g hg => hb.block g (O.out.lt g hg).2); clear hf hb)
              | (go_at_call 49; refine (HF.out _ (Below.refl _ _)).mono ?_; rintro e1 w1 ⟨rfl, hb⟩; have B := Lib.hid (Gr.step B.out hb); have O := Lib.hid (Sep.ownsRow_at O.out fun g hg => hb.block g (O.out.lt g hg).2); clear hb; simp only [Step.from, tokRes])
              | (at_builtin; refine wpList_append_own_at _ rfl _ _ 46 rfl w.heap.size 75 i0 (.agg #[.int .i64 0, .string ByteArray.empty, .int .i64 0]) 3 32 Tryz.underlying46 hi hz0 hz1 hz2 rfl (by decide) _ _ _ rfl ((O.out.alloc _).alloc _) ⟨w1.heap.size + 1, 0, none⟩ 1 1 [.int .i64 k, .string (s.extract a (a + n)), .int .i64 (a : Int)] rfl rfl (cells_three_new _ _ _ _ _ _ (by simp)) (by simp [Value.oneCell']) (by unfold maxLen; omega) (by omega) (by have := B.out.size; simp; omega) ?_; intro v2 w2 hown2 hg2 hnl hloc; clear hnl; have O2 := Lib.hid hown2; have B2 := Lib.hid (((B.out.alloc B.out.size _).alloc (by have := B.out.size; simp; omega) _).grown hg2 (by have := B.out.size; simp; omega) fun g hg => (O.out.lt g hg).1); have K2 := Lib.hid (show w2.cell? ⟨w1.heap.size, 1, none⟩ = some (.string (s.extract a (a + n))) from cell_kept (by simp) hg2 O.out (by simp)); have k2 := K2.out; clear hown2 hg2 hloc K2))
            go_roundg (s.size - (a + n))
            case rel => exact ⟨a + n, T ++ [⟨k, s.extract a (a + n), a⟩], by omega, by go_num, by simp; omega, by rw [cells_snoc, List.length_append]; exact O2.out, F2.out, B2.out⟩
            case measure => omega

end Go.Proofs.YtimfiaphhomelaaGreat.Tk
