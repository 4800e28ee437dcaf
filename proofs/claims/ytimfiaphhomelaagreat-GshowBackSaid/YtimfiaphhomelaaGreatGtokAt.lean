/-
  Package gtok: the reader that a byte calls for. Conditions: a text of at most 8192 bytes; the library's variable MaxLen holds a number.
-/
import Derived.Test.YtimfiaphhomelaaGreatGtokFind
namespace Go.Proofs.YtimfiaphhomelaaGreat.Tk
open Go.RowKit Go.Maps
set_option linter.unusedVariables false
set_option linter.unusedSimpArgs false

/-- A reader comes back that finds this step; nothing that was there is written. -/
def Picks (s : ByteArray) (a : Nat) (y : Step) (w : World) (e : Ending) (w' : World) : Prop := ∃ v, e = .returned v ∧ Finds s a y v w' ∧ Below w.heap.size w w'

theorem single_any (k : Int) (w : World) : Calls Tryz.prog 76 #[.int .i64 k] w fun e w' => e = .returned (.func (.func 103) #[] #[.pointer (some ⟨w.heap.size, 0, none⟩)]) ∧ w.alloc (.cells #[.int .i64 k] 3) = w' := by
  have hmf : ∀ (fn : Fn) (first cap : Array Value) (w : World), (Instr.makeFunc fn first cap).run Tryz.prog w = .ok (.func fn first cap) w := fun _ _ _ _ => rfl
  go_enter Tryz.func76, Tryz.ntmps76
  go_wp2
  go_ret
  exact ⟨rfl, rfl⟩

theorem finds_single (s : ByteArray) (a : Nat) (k : Int) (y : Step) (w : World) (ha : a < s.size) (hs : s.size ≤ 8192) (hy : .tok k (a + 1) = y) :
    Finds s a y (.func (.func 103) #[] #[.pointer (some ⟨w.heap.size, 0, none⟩)]) (w.alloc (.cells #[.int .i64 k] 3)) := by
  subst hy
  exact fun w' hb => read_single s a w.heap.size k w' ha hs (Gr.cell_later hb (by simp))

theorem byte_is {c : UInt8} {n : Int} (h : (c.toNat : Int) = n) (k : UInt8) : c = k ↔ n = (k.toNat : Int) := by
  rw [← h]
  constructor
  · rintro rfl; rfl
  · intro e; exact UInt8.toNat_inj.1 (by omega)

theorem ends_from {s : ByteArray} {a : Nat} {y : Step} (hy : (stepL (s.data.toList.drop a)).from a = y) (ha : a ≤ s.size) : Ends s a y := by
  subst hy
  cases hs : stepL (s.data.toList.drop a) with
  | bad e p => trivial
  | tok k n =>
    have hl : (s.data.toList.drop a).length = s.size - a := by rw [List.length_drop, data_length]
    rcases stepL_tok hs with ⟨_, rfl, _⟩ | ⟨_, _, h2⟩
    · exact ⟨Nat.le_refl _, ha⟩
    · rw [hl] at h2
      exact ⟨by omega, by omega⟩

set_option maxHeartbeats 4000000 in
theorem readerAt_any (s : ByteArray) (a : Nat) (y : Step) (w : World) (ha : a ≤ s.size) (hy : (stepL (s.data.toList.drop a)).from a = y) (hs : s.size ≤ 8192) (hm : MaxLen w) :
    Calls Tryz.prog 50 #[.string s, .int .i64 (a : Int)] w (Picks s a y w) := by
  have EN := Lib.hid (ends_from hy ha)
  by_cases he : a = s.size
  · subst he
    rw [List.drop_eq_nil_of_le (by rw [data_length]; exact Nat.le_refl _)] at hy
    have HY := Lib.hid (show Step.tok 0 s.size = y from hy)
    clear hy
    go_enter Tryz.func50, Tryz.ntmps50
    go_wp2
    go_ret
    exact ⟨_, rfl, fun w' hb => read_finish s s.size y w' (Nat.le_refl _) hs EN.out fun w2 _ => by rw [← HY.out]; exact finish_any s _ _ w2 rfl, Below.refl _ _⟩
  · have hlt : a < s.size := by omega
    have hne : ((a : Int) == (s.size : Int)) = false := by rw [beq_eq_false_iff_ne]; omega
    rw [drop_cons s a hlt] at hy
    obtain ⟨n, hn⟩ : ∃ n : Int, ((s[a]'hlt).toNat : Int) = n := ⟨_, rfl⟩
    have hn0 : 0 ≤ n := by omega
    have hn1 : n ≤ 255 := by have := (s[a]'hlt).toNat_lt; omega
    have B := Lib.hid (fun k => byte_is hn k)
    have CB := Lib.hid (show Ch.cb (s[a]'hlt) = Ch.cls n by unfold Ch.cb; rw [hn])
    simp only [stepL] at hy
    clear he
    by_cases h32 : n = 32
    · have e : s[a] = 32 := (B.out _).2 (by simpa using h32)
      rw [if_pos (.inl e)] at hy
      have HY := Lib.hid (show Step.tok (-1) (a + 1) = y from hy)
      clear hy e B CB
      subst h32
      go_enter Tryz.func50, Tryz.ntmps50
      go_wp2_with (go_at_call 76; refine (single_any _ _).mono ?_; rintro e w' ⟨rfl, rfl⟩)
      go_ret
      exact ⟨_, rfl, finds_single s a _ y w hlt hs HY.out, Gr.boxed _ _⟩
    have g32 : ¬ s[a] = 32 := fun e => h32 (by simpa using (B.out _).1 e)
    by_cases h9 : n = 9
    · have e : s[a] = 9 := (B.out _).2 (by simpa using h9)
      rw [if_pos (.inr (.inl e))] at hy
      have HY := Lib.hid (show Step.tok (-1) (a + 1) = y from hy)
      clear hy e B CB
      subst h9
      go_enter Tryz.func50, Tryz.ntmps50
      go_wp2_with (go_at_call 76; refine (single_any _ _).mono ?_; rintro e w' ⟨rfl, rfl⟩)
      go_ret
      exact ⟨_, rfl, finds_single s a _ y w hlt hs HY.out, Gr.boxed _ _⟩
    have g9 : ¬ s[a] = 9 := fun e => h9 (by simpa using (B.out _).1 e)
    by_cases h10 : n = 10
    · have e : s[a] = 10 := (B.out _).2 (by simpa using h10)
      rw [if_pos (.inr (.inr (.inl e)))] at hy
      have HY := Lib.hid (show Step.tok (-1) (a + 1) = y from hy)
      clear hy e B CB
      subst h10
      go_enter Tryz.func50, Tryz.ntmps50
      go_wp2_with (go_at_call 76; refine (single_any _ _).mono ?_; rintro e w' ⟨rfl, rfl⟩)
      go_ret
      exact ⟨_, rfl, finds_single s a _ y w hlt hs HY.out, Gr.boxed _ _⟩
    have g10 : ¬ s[a] = 10 := fun e => h10 (by simpa using (B.out _).1 e)
    by_cases h13 : n = 13
    · have e : s[a] = 13 := (B.out _).2 (by simpa using h13)
      rw [if_pos (.inr (.inr (.inr e)))] at hy
      have HY := Lib.hid (show Step.tok (-1) (a + 1) = y from hy)
      clear hy e B CB
      subst h13
      go_enter Tryz.func50, Tryz.ntmps50
      go_wp2_with (go_at_call 76; refine (single_any _ _).mono ?_; rintro e w' ⟨rfl, rfl⟩)
      go_ret
      exact ⟨_, rfl, finds_single s a _ y w hlt hs HY.out, Gr.boxed _ _⟩
    have g13 : ¬ s[a] = 13 := fun e => h13 (by simpa using (B.out _).1 e)
    rw [if_neg (fun hh => hh.elim g32 fun hh => hh.elim g9 fun hh => hh.elim g10 g13)] at hy
    by_cases h58 : n = 58
    · have e : s[a] = 58 := (B.out _).2 (by simpa using h58)
      rw [if_pos e] at hy
      have HY := Lib.hid (show Step.tok 3 (a + 1) = y from hy)
      clear hy e B CB
      subst h58
      go_enter Tryz.func50, Tryz.ntmps50
      go_wp2_with (go_at_call 76; refine (single_any _ _).mono ?_; rintro e w' ⟨rfl, rfl⟩)
      go_ret
      exact ⟨_, rfl, finds_single s a _ y w hlt hs HY.out, Gr.boxed _ _⟩
    have g58 : ¬ s[a] = 58 := fun e => h58 (by simpa using (B.out _).1 e)
    rw [if_neg g58] at hy
    by_cases h124 : n = 124
    · have e : s[a] = 124 := (B.out _).2 (by simpa using h124)
      rw [if_pos e] at hy
      have HY := Lib.hid (show Step.tok 4 (a + 1) = y from hy)
      clear hy e B CB
      subst h124
      go_enter Tryz.func50, Tryz.ntmps50
      go_wp2_with (go_at_call 76; refine (single_any _ _).mono ?_; rintro e w' ⟨rfl, rfl⟩)
      go_ret
      exact ⟨_, rfl, finds_single s a _ y w hlt hs HY.out, Gr.boxed _ _⟩
    have g124 : ¬ s[a] = 124 := fun e => h124 (by simpa using (B.out _).1 e)
    rw [if_neg g124] at hy
    by_cases h59 : n = 59
    · have e : s[a] = 59 := (B.out _).2 (by simpa using h59)
      rw [if_pos e] at hy
      have HY := Lib.hid (show Step.tok 5 (a + 1) = y from hy)
      clear hy e B CB
      subst h59
      go_enter Tryz.func50, Tryz.ntmps50
      go_wp2_with (go_at_call 76; refine (single_any _ _).mono ?_; rintro e w' ⟨rfl, rfl⟩)
      go_ret
      exact ⟨_, rfl, finds_single s a _ y w hlt hs HY.out, Gr.boxed _ _⟩
    have g59 : ¬ s[a] = 59 := fun e => h59 (by simpa using (B.out _).1 e)
    rw [if_neg g59] at hy
    by_cases h47 : n = 47
    · have e : s[a] = 47 := (B.out _).2 (by simpa using h47)
      rw [if_pos e] at hy
      have HY := Lib.hid hy
      have HE := Lib.hid e
      have HM := Lib.hid hm
      clear hy e B CB
      subst h47
      go_enter Tryz.func50, Tryz.ntmps50
      go_wp2
      go_ret
      exact ⟨_, rfl, fun w' hb => read_comment s a y w' (by omega) hs EN.out fun w2 hb2 => comment_any s _ a y w2 rfl hlt HE.out HY.out hs ((HM.out.keep hb).keep hb2), Below.refl _ _⟩
    have g47 : ¬ s[a] = 47 := fun e => h47 (by simpa using (B.out _).1 e)
    rw [if_neg g47] at hy
    by_cases h37 : n = 37
    · have e : s[a] = 37 := (B.out _).2 (by simpa using h37)
      rw [if_pos e] at hy
      have HY := Lib.hid hy
      have HE := Lib.hid e
      have HM := Lib.hid hm
      clear hy e B CB
      subst h37
      go_enter Tryz.func50, Tryz.ntmps50
      go_wp2
      go_ret
      exact ⟨_, rfl, fun w' hb => read_percent s a y w' (by omega) hs EN.out fun w2 hb2 => percent_any s _ a y w2 rfl hlt HE.out HY.out hs, Below.refl _ _⟩
    have g37 : ¬ s[a] = 37 := fun e => h37 (by simpa using (B.out _).1 e)
    rw [if_neg g37] at hy
    by_cases h39 : n = 39
    · have e : s[a] = 39 := (B.out _).2 (by simpa using h39)
      rw [if_pos e] at hy
      have HY := Lib.hid hy
      have HE := Lib.hid e
      have HM := Lib.hid hm
      clear hy e B CB
      subst h39
      go_enter Tryz.func50, Tryz.ntmps50
      go_wp2
      go_ret
      exact ⟨_, rfl, fun w' hb => read_quoted s a y w' (by omega) hs EN.out fun w2 hb2 => quoted_any s _ a y w2 rfl HY.out hlt hs, Below.refl _ _⟩
    have g39 : ¬ s[a] = 39 := fun e => h39 (by simpa using (B.out _).1 e)
    rw [if_neg g39] at hy
    have LT := Lib.hid (fun w1 => letter_any n w1 hn0 hn1)
    clear g32 g9 g10 g13 g58 g124 g59 g47 g37 g39
    cases hl : (Ch.cls n == 4) with
    | true =>
      rw [hl] at LT
      rw [if_pos (show letB s[a] = true by unfold letB; rw [CB.out]; exact hl), ← drop_cons s a hlt] at hy
      have HY := Lib.hid hy
      clear hy hl B CB
      go_enter Tryz.func50, Tryz.ntmps50
      go_wp2_with (go_at_call 80; refine (LT.out _).mono ?_; rintro e w' ⟨rfl, rfl⟩)
      go_ret
      exact ⟨_, rfl, fun w' hb => read_name s a y w' (by omega) hs EN.out fun w2 hb2 => name_any s _ a y w2 rfl HY.out (by omega) hs, Below.refl _ _⟩
    | false =>
      rw [hl] at LT
      rw [if_neg (show ¬ letB s[a] = true by unfold letB; rw [CB.out, hl]; decide)] at hy
      have HY := Lib.hid (show Step.bad 2 a = y from hy)
      clear hy hl B CB
      go_enter Tryz.func50, Tryz.ntmps50
      go_wp2_with (go_at_call 80; refine (LT.out _).mono ?_; rintro e w' ⟨rfl, rfl⟩)
      go_ret
      exact ⟨_, rfl, fun w' hb => read_wrong s a y w' (by omega) hs EN.out fun w2 hb2 => by rw [← HY.out]; exact wrong_any s _ w2, Below.refl _ _⟩

end Go.Proofs.YtimfiaphhomelaaGreat.Tk
