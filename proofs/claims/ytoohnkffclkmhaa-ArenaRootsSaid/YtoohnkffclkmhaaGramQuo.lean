/-
  A quoted token: by the program's package gtok and by the plain answers of layer 5; a plain name. Condition: a string's length fits a machine's.
-/
import Derived.Test.YtoohnkffclkmhaaGramAt
import Derived.Test.YtoohnkffclkmhaaCharRef
namespace Go.Proofs.Ytoohnkffclkmhaa.Gr
open Go.RowKit Go.Maps
set_option linter.unusedVariables false

def headB (s : ByteArray) : Bool := s.data.toList.head? == some 39
theorem head_yes {s : ByteArray} (h : headB s = true) : ∃ h : 0 < s.size, (s[0]'h).toNat = 39 := by
  rcases s with ⟨⟨l⟩⟩
  cases l with
  | nil => simp [headB] at h
  | cons b r =>
    simp [headB] at h
    subst h
    exact ⟨by simp [ByteArray.size], rfl⟩
theorem head_no {s : ByteArray} (h : headB s = false) : ¬ ∃ h : 0 < s.size, (s[0]'h).toNat = 39 := by
  rintro ⟨h0, h1⟩
  rcases s with ⟨⟨l⟩⟩
  cases l with
  | nil => simp [ByteArray.size] at h0
  | cons b r =>
    simp [headB] at h
    exact h (UInt8.toNat_inj.mp h1)
theorem head_one (s : ByteArray) : ((s.extract 0 1).toList == [39]) = headB s := by
  rw [ByteArray.toList_eq, Ch.take_data]
  rcases s with ⟨⟨l⟩⟩
  cases l with
  | nil => rfl
  | cons b r => simp [headB]

theorem prefix_any (s : ByteArray) (w : World) : Calls Try.prog 67 #[.string s, .string ⟨#[39]⟩] w fun e w' => e = .returned (.bool (headB s)) ∧ w = w' := by
  by_cases h0 : 0 < s.size
  · have E := Lib.hid (head_one s)
    go_enter Try.func67, Try.ntmps67
    go_wp2
    go_ret
    exact ⟨bool_of E.out.symm, rfl⟩
  · have E := Lib.hid (show headB s = false by
      have : s.data.toList = [] := by
        have : s.data.toList.length = s.size := rfl
        exact List.eq_nil_of_length_eq_zero (by omega)
      unfold headB
      rw [this]; rfl)
    go_enter Try.func67, Try.ntmps67
    go_wp2
    go_ret
    exact ⟨bool_of E.out, rfl⟩
theorem hasPrefix_any (s : ByteArray) (w : World) : Calls Try.prog 60 #[.string s, .string ⟨#[39]⟩] w fun e w' => e = .returned (.bool (headB s)) ∧ w = w' := by
  have H := Lib.hid (prefix_any s w)
  go_enter Try.func60, Try.ntmps60
  go_wp2_with (go_at_call 67; refine H.out.mono ?_; rintro e w' ⟨rfl, rfl⟩)
  go_ret
  exact ⟨rfl, rfl⟩

theorem new_fault (e at_ : Int) (w : World) (hne : ¬ e = 0) : Calls Try.prog 69 #[.int .i64 e, .int .i64 at_] w fun x w' => x = .returned (.iface 109 (.agg #[.int .i64 e, .int .i64 at_])) ∧ w = w' := by
  go_enter Try.func69, Try.ntmps69
  go_wp2
  go_ret
  exact ⟨rfl, rfl⟩

/-- No token, and an error. -/
def Wrong (w : World) (e : Ending) (w' : World) : Prop := ∃ x, e = .returned (.tuple #[.int .i64 0, .int .i64 0, .iface 109 x]) ∧ w = w'

theorem wrong_any (s : ByteArray) (at_ : Int) (w : World) : Calls Try.prog 68 #[.string s, .int .i64 at_] w (Wrong w) := by
  go_enter Try.func68, Try.ntmps68
  go_wp2_with (go_at_call 69; refine (new_fault _ _ _ (by decide)).mono ?_; rintro e w' ⟨rfl, rfl⟩)
  go_ret3
  exact ⟨_, rfl, rfl⟩

set_option maxHeartbeats 2000000 in
theorem quoted_yes (s : ByteArray) (k : Nat) (w : World) (hc : Closes s k) (hs : s.size ≤ 140737488355328) :
    Calls Try.prog 61 #[.string s, .int .i64 0] w fun e w' => e = .returned (.tuple #[.int .i64 2, .int .i64 ((k : Int) + 1), .nilIface]) ∧ w = w' := by
  have C := Lib.hid hc
  obtain ⟨h2, h24, _, hk, h39⟩ := hc
  have h39' : ((s[k]'hk).toNat : Int) = 39 := by omega
  clear h39
  go_enter Try.func61, Try.ntmps61
  go_wp2
  go_loop [7] (fun i => ∃ j : Nat, 1 ≤ j ∧ j ≤ k ∧ i = .int .i64 j) (fun i => k - (intOf i).toNat)
  case atStart => exact ⟨1, by omega, by omega, by go_num⟩
  case round =>
    obtain ⟨j, hj1, hj2, rfl⟩ := hrel
    by_cases e : j = k
    · subst e
      go_wp2
      go_ret3
      exact ⟨rfl, rfl⟩
    · have hjs : j < s.size := by omega
      have hi := closes_not C.out hjs hj1 (by omega)
      simp only [insB, decide_eq_true_eq] at hi
      obtain ⟨i1, i2, i3⟩ := hi
      go_wp2
      go_round
      case rel => exact ⟨j + 1, by omega, by omega, by go_num⟩
      case measure => simp [intOf]; omega

set_option maxHeartbeats 2000000 in
theorem quoted_no (s : ByteArray) (w : World) (hc : ¬ ∃ k, Closes s k) (hs : s.size ≤ 140737488355328) :
    Calls Try.prog 61 #[.string s, .int .i64 0] w (Wrong w) := by
  have C := Lib.hid hc
  clear hc
  go_enter Try.func61, Try.ntmps61
  go_wp2
  go_loop [7] (fun i => ∃ j : Nat, 1 ≤ j ∧ j ≤ 24 ∧ i = .int .i64 j ∧ InTo s j) (fun i => 25 - (intOf i).toNat)
  case atStart => exact ⟨1, by omega, by omega, by go_num, inTo_one s⟩
  case round =>
    obtain ⟨j, hj1, hj2, rfl, hI⟩ := hrel
    have I := Lib.hid hI
    clear hI
    by_cases hlt : j < s.size
    · by_cases e1 : ((s[j]'hlt).toNat : Int) < 33
      · have e39 : ¬ ((s[j]'hlt).toNat : Int) = 39 := by omega
        go_wp2_with (go_at_call 68; refine (wrong_any _ _ _).mono ?_; rintro e w' ⟨x, rfl, rfl⟩)
        go_ret3
        exact ⟨_, rfl, rfl⟩
      · by_cases e2 : 126 < ((s[j]'hlt).toNat : Int)
        · have e39 : ¬ ((s[j]'hlt).toNat : Int) = 39 := by omega
          go_wp2_with (go_at_call 68; refine (wrong_any _ _ _).mono ?_; rintro e w' ⟨x, rfl, rfl⟩)
          go_ret3
          exact ⟨_, rfl, rfl⟩
        · by_cases e3 : ((s[j]'hlt).toNat : Int) = 39
          · by_cases e4 : j = 1
            · subst e4
              go_wp2_with (go_at_call 68; refine (wrong_any _ _ _).mono ?_; rintro e w' ⟨x, rfl, rfl⟩)
              go_ret3
              exact ⟨_, rfl, rfl⟩
            · by_cases e5 : 24 ≤ j
              · clear e1 e2
                have e6 : ¬ (j : Int) = 1 := by omega
                go_wp2_with (go_at_call 69; refine (new_fault _ _ _ (by decide)).mono ?_; rintro e w' ⟨rfl, rfl⟩)
                go_ret3
                exact ⟨_, rfl, rfl⟩
              · exact absurd ⟨j, by omega, by omega, I.out, hlt, by omega⟩ C.out
          · by_cases e5 : 24 ≤ j
            · go_wp2_with (go_at_call 69; refine (new_fault _ _ _ (by decide)).mono ?_; rintro e w' ⟨rfl, rfl⟩)
              go_ret3
              exact ⟨_, rfl, rfl⟩
            · have I2 := Lib.hid (inTo_step I.out hlt (by simp only [insB, decide_eq_true_eq]; omega))
              go_wp2
              go_round
              case rel => exact ⟨j + 1, by omega, by omega, by go_num, I2.out⟩
              case measure => simp [intOf]; omega
    · go_wp2_with (go_at_call 69; refine (new_fault _ _ _ (by decide)).mono ?_; rintro e w' ⟨rfl, rfl⟩)
      go_ret3
      exact ⟨_, rfl, rfl⟩

theorem gquoted_any (s : ByteArray) (w : World) (hs : s.size ≤ 140737488355328) : Calls Try.prog 51 #[.string s] w fun e w' => e = .returned (.bool (quoS s)) ∧ w = w' := by
  have P := Lib.hid (hasPrefix_any s w)
  cases h0 : headB s with
  | false =>
    rw [h0] at P
    have E := Lib.hid (quo_no (head_no h0))
    go_enter Try.func51, Try.ntmps51
    go_wp2_with (go_at_call 60; refine P.out.mono ?_; rintro e w' ⟨rfl, rfl⟩)
    go_ret
    exact ⟨bool_of E.out, rfl⟩
  | true =>
    rw [h0] at P
    by_cases hc : ∃ k, Closes s k
    · obtain ⟨k, hc⟩ := hc
      have E := Lib.hid (quo_some (head_yes h0) hc)
      have Q := Lib.hid (quoted_yes s k w hc hs)
      by_cases e : k + 1 = s.size
      · rw [decide_eq_true e] at E
        have e' : ((k : Int) + 1) = (s.size : Int) := by omega
        rw [e'] at Q
        clear hc e e'
        go_enter Try.func51, Try.ntmps51
        go_wp2_with (first | (go_at_call 60; refine P.out.mono ?_; rintro e w' ⟨rfl, rfl⟩) | (go_at_call 61; refine Q.out.mono ?_; rintro e w' ⟨rfl, rfl⟩))
        go_ret
        exact ⟨bool_of E.out, rfl⟩
      · rw [decide_eq_false e] at E
        have e' : (((k : Int) + 1) == (s.size : Int)) = false := by
          rw [beq_eq_false_iff_ne]
          omega
        clear hc e
        go_enter Try.func51, Try.ntmps51
        go_wp2_with (first | (go_at_call 60; refine P.out.mono ?_; rintro e w' ⟨rfl, rfl⟩) | (go_at_call 61; refine Q.out.mono ?_; rintro e w' ⟨rfl, rfl⟩))
        go_ret
        exact ⟨bool_of E.out, rfl⟩
    · have E := Lib.hid (quo_none hc)
      have Q := Lib.hid (quoted_no s w hc hs)
      clear hc
      go_enter Try.func51, Try.ntmps51
      go_wp2_with (first | (go_at_call 60; refine P.out.mono ?_; rintro e w' ⟨rfl, rfl⟩) | (go_at_call 61; refine Q.out.mono ?_; rintro e w' ⟨x, rfl, rfl⟩))
      go_ret
      exact ⟨bool_of E.out, rfl⟩

/-! ### The plain answers -/

end Go.Proofs.Ytoohnkffclkmhaa.Gr
