/-
  Package gtok: what begins at a place: the readers of one kind each. Condition: a text of at most 8192 bytes.
-/
import Derived.Test.YtimfiaphhomelaaGreatGtokSpan
namespace Go.Proofs.YtimfiaphhomelaaGreat.Tk
open Go.RowKit Go.Maps
set_option linter.unusedVariables false
set_option linter.unusedSimpArgs false

/-- A step, its places counted from the text's beginning. -/
def Step.from (a : Nat) : Step → Step
  | .tok k n => .tok k (a + n)
  | .bad e p => .bad e (a + p)
/-- What a reader hands back. -/
def gave : Step → Value
  | .tok k b => .tuple #[.int .i64 k, .int .i64 (b : Int), .nilIface]
  | .bad e p => .tuple #[.int .i64 0, .int .i64 0, .iface 82 (.agg #[.int .i64 e, .int .i64 (p : Int)])]

/-- A value comes back; the world is as it was. -/
def Just (v : Value) (w : World) (e : Ending) (w' : World) : Prop := e = .returned v ∧ w = w'

theorem tok_of {k : Int} {b : Nat} {x : Int} {y : Step} (hy : .tok k b = y) (hx : (b : Int) = x) : Ending.returned (.tuple #[.int .i64 k, .int .i64 x, .nilIface]) = .returned (gave y) := by subst hy hx; rfl
theorem bad_of {k : Int} {b : Nat} {x : Int} {y : Step} (hy : .bad k b = y) (hx : (b : Int) = x) : Ending.returned (.tuple #[.int .i64 0, .int .i64 0, .iface 82 (.agg #[.int .i64 k, .int .i64 x])]) = .returned (gave y) := by subst hy hx; rfl

theorem new_fault (e at_ : Int) (w : World) (hne : ¬ e = 0) : Calls Tryz.prog 27 #[.int .i64 e, .int .i64 at_] w (Just (.iface 82 (.agg #[.int .i64 e, .int .i64 at_])) w) := by
  go_enter Tryz.func27, Tryz.ntmps27
  go_wp2
  go_ret
  exact ⟨rfl, rfl⟩

theorem wrong_any (s : ByteArray) (x : Int) (w : World) : Calls Tryz.prog 82 #[.string s, .int .i64 x] w (Just (.tuple #[.int .i64 0, .int .i64 0, .iface 82 (.agg #[.int .i64 2, .int .i64 x])]) w) := by
  go_enter Tryz.func82, Tryz.ntmps82
  go_wp2_with (go_at_call 27; refine (new_fault _ _ _ (by decide)).mono ?_; rintro e w' ⟨rfl, rfl⟩)
  go_ret3
  exact ⟨rfl, rfl⟩

theorem finish_any (s : ByteArray) (x : Int) (a : Nat) (w : World) (hx : x = (a : Int)) : Calls Tryz.prog 75 #[.string s, .int .i64 x] w (Just (gave (.tok 0 a)) w) := by
  subst hx
  go_enter Tryz.func75, Tryz.ntmps75
  go_wp2
  go_ret3
  exact ⟨rfl, rfl⟩

theorem name_any (s : ByteArray) (x : Int) (a : Nat) (y : Step) (w : World) (hx : x = (a : Int)) (hy : (namL (s.data.toList.drop a)).from a = y) (ha : a ≤ s.size) (hs : s.size ≤ 8192) :
    Calls Tryz.prog 81 #[.string s, .int .i64 x] w (Just (gave y) w) := by
  subst hx
  obtain ⟨n, hn⟩ : ∃ n, spanL inNB (s.data.toList.drop a) = n := ⟨_, rfl⟩
  have hle := spanL_le inNB (s.data.toList.drop a)
  rw [List.length_drop, data_length, hn] at hle
  have SP := Lib.hid (span_inName s a a (a + n) w rfl (by rw [hn]) ha hs)
  unfold namL at hy
  rw [hn] at hy
  by_cases h24 : 24 < n
  · rw [if_pos h24] at hy
    have HY := Lib.hid hy
    clear hy hn
    go_enter Tryz.func81, Tryz.ntmps81
    go_wp2_with (first
      | (go_at_call 105; refine SP.out.mono ?_; rintro e w' ⟨rfl, rfl⟩)
      | (go_at_call 27; refine (new_fault _ _ _ (by decide)).mono ?_; rintro e w' ⟨rfl, rfl⟩))
    go_ret3
    exact ⟨bad_of HY.out (by simp), rfl⟩
  · rw [if_neg h24] at hy
    have HY := Lib.hid hy
    clear hy hn
    go_enter Tryz.func81, Tryz.ntmps81
    go_wp2_with (first
      | (go_at_call 105; refine SP.out.mono ?_; rintro e w' ⟨rfl, rfl⟩)
      | (go_at_call 27; refine (new_fault _ _ _ (by decide)).mono ?_; rintro e w' ⟨rfl, rfl⟩))
    go_ret3
    exact ⟨tok_of HY.out (by simp), rfl⟩

theorem toNat_ne {c : UInt8} {n : Nat} (h : ¬ c.toNat = n) (hn : n < 256) : ¬ ((c.toNat : Int) = (n : Int)) := by omega

set_option maxHeartbeats 4000000 in
theorem quoted_any (s : ByteArray) (x : Int) (a : Nat) (y : Step) (w : World) (hx : x = (a : Int)) (hy : (quoL (s.data.toList.drop (a + 1)) 1).from a = y) (ha : a < s.size) (hs : s.size ≤ 8192) :
    Calls Tryz.prog 79 #[.string s, .int .i64 x] w (Just (gave y) w) := by
  subst hx
  have HY := Lib.hid hy
  clear hy
  go_enter Tryz.func79, Tryz.ntmps79
  go_wp2
  go_loop [7] (fun i => ∃ j : Nat, a + 1 ≤ j ∧ j ≤ s.size ∧ i = .int .i64 j ∧ (quoL (s.data.toList.drop j) (j - a)).from a = y) (fun i => s.size - (intOf i).toNat)
  case atStart => exact ⟨a + 1, by omega, by omega, by go_num, by rw [show a + 1 - a = 1 by omega]; exact HY.out⟩
  case round =>
    clear HY
    obtain ⟨j, haj, hj, rfl, hQ⟩ := hrel
    by_cases hlt : j < s.size
    · rw [drop_cons s j hlt] at hQ
      unfold quoL at hQ
      by_cases e1 : ((s[j]'hlt).toNat : Int) < 33
      · rw [if_pos (.inl (by omega))] at hQ
        have Q := Lib.hid hQ
        have e39 : ¬ ((s[j]'hlt).toNat : Int) = 39 := by omega
        clear hQ
        go_wp2_with (go_at_call 82; refine (wrong_any _ _ _).mono ?_; rintro e w' ⟨rfl, rfl⟩)
        go_ret3
        exact ⟨bad_of Q.out (by omega), rfl⟩
      · by_cases e2 : 126 < ((s[j]'hlt).toNat : Int)
        · rw [if_pos (.inr (.inl (by omega)))] at hQ
          have Q := Lib.hid hQ
          have e39 : ¬ ((s[j]'hlt).toNat : Int) = 39 := by omega
          clear hQ
          go_wp2_with (go_at_call 82; refine (wrong_any _ _ _).mono ?_; rintro e w' ⟨rfl, rfl⟩)
          go_ret3
          exact ⟨bad_of Q.out (by omega), rfl⟩
        · by_cases e3 : ((s[j]'hlt).toNat : Int) = 39
          · by_cases e4 : j = a + 1
            · rw [if_pos (.inr (.inr ⟨by omega, by omega⟩))] at hQ
              have Q := Lib.hid hQ
              clear hQ
              subst e4
              go_wp2_with (go_at_call 82; refine (wrong_any _ _ _).mono ?_; rintro e w' ⟨rfl, rfl⟩)
              go_ret3
              exact ⟨bad_of Q.out (by omega), rfl⟩
            · rw [if_neg (by omega)] at hQ
              have e6 : ¬ (j : Int) = (a : Int) + 1 := by omega
              by_cases e5 : 24 ≤ j - a
              · rw [if_pos e5] at hQ
                have Q := Lib.hid hQ
                clear e1 e2 hQ
                have e7 : ¬ (j : Int) - (a : Int) < 24 := by omega
                go_wp2_with (go_at_call 27; refine (new_fault _ _ _ (by decide)).mono ?_; rintro e w' ⟨rfl, rfl⟩)
                go_ret3
                exact ⟨bad_of Q.out (by omega), rfl⟩
              · rw [if_neg e5, if_pos (by omega)] at hQ
                have Q := Lib.hid hQ
                clear e1 e2 hQ
                have e7 : (j : Int) - (a : Int) < 24 := by omega
                go_wp2
                go_ret3
                exact ⟨tok_of Q.out (by omega), rfl⟩
          · rw [if_neg (by omega)] at hQ
            by_cases e5 : 24 ≤ j - a
            · rw [if_pos e5] at hQ
              have Q := Lib.hid hQ
              clear hQ
              have e7 : ¬ (j : Int) - (a : Int) < 24 := by omega
              go_wp2_with (go_at_call 27; refine (new_fault _ _ _ (by decide)).mono ?_; rintro e w' ⟨rfl, rfl⟩)
              go_ret3
              exact ⟨bad_of Q.out (by omega), rfl⟩
            · rw [if_neg e5, if_neg (by omega)] at hQ
              have Q := Lib.hid hQ
              clear hQ
              have e7 : (j : Int) - (a : Int) < 24 := by omega
              go_wp2
              go_round
              case rel => exact ⟨j + 1, by omega, by omega, by go_num, by rw [show j + 1 - a = j - a + 1 by omega]; exact Q.out⟩
              case measure => simp [intOf]; omega
    · rw [List.drop_eq_nil_of_le (by rw [data_length]; omega)] at hQ
      unfold quoL at hQ
      have Q := Lib.hid hQ
      clear hQ
      go_wp2_with (go_at_call 27; refine (new_fault _ _ _ (by decide)).mono ?_; rintro e w' ⟨rfl, rfl⟩)
      go_ret3
      exact ⟨bad_of Q.out (by omega), rfl⟩

end Go.Proofs.YtimfiaphhomelaaGreat.Tk
