/-
  A quoted token, by the plain answers of layer 5; a plain name, by both sides.
-/
import Derived.Test.YtkggpkbdekebcaaGreatGramQuo
namespace Go.Proofs.YtkggpkbdekebcaaGreat.Gr
open Go.RowKit Go.Maps
set_option linter.unusedVariables false

/-- A number and a fault come back; nothing that was there is written. -/
def Faulty (n e x : Int) (w : World) (en : Ending) (w' : World) : Prop := en = .returned (.tuple #[.int .i64 n, .agg #[.int .i64 e, .int .i64 x]]) ∧ Below w.heap.size w w'
def SomeFault (w : World) (en : Ending) (w' : World) : Prop := ∃ e x : Int, (e == 0) = false ∧ Faulty 0 e x w en w'

set_option maxHeartbeats 2000000 in
theorem rquoted_yes (s : ByteArray) (k : Nat) (w : World) (hc : Closes s k) (hs : s.size ≤ 140737488355328) :
    Calls Tryz.prog 56 #[.string s, .int .i64 0] w (Faulty ((k : Int) + 1) 0 0 w) := by
  have C := Lib.hid hc
  obtain ⟨h2, h24, _, hk, h39⟩ := hc
  have h39' : ((s[k]'hk).toNat : Int) = 39 := by omega
  have B := Lib.hid (fun o => boxed w o)
  have I39 := Lib.hid (show insB 39 = false by decide)
  clear h39
  go_enter Tryz.func56, Tryz.ntmps56
  go_wp2
  go_loop [6] (fun i => ∃ j : Nat, 1 ≤ j ∧ j ≤ k ∧ i = .int .i64 j) (fun i => k - (intOf i).toNat)
  case atStart => exact ⟨1, by omega, by omega, by go_num⟩
  case round =>
    obtain ⟨j, hj1, hj2, rfl⟩ := hrel
    by_cases e : j = k
    · subst e
      go_wp2_with (go_at_call 75; refine (rinside_any _ _ (by omega) (by omega)).mono ?_; rw [I39.out]; rintro e w' ⟨rfl, rfl⟩)
      exact bodyPost_ret (v := .tuple #[.int .i64 ((j : Int) + 1), .agg #[.int .i64 0, .int .i64 0]]) (by simp [results, Tryz.results56, go_sem]) rfl ⟨rfl, B.out _⟩
    · have hjs : j < s.size := by omega
      have hi := Lib.hid (closes_not C.out hjs hj1 (by omega))
      have hb1 := Ch.byte_le (s[j]'hjs)
      go_wp2_with (go_at_call 75; refine (rinside_any _ _ (by omega) (by omega)).mono ?_; rw [hi.out]; rintro e w' ⟨rfl, rfl⟩)
      go_round
      case rel => exact ⟨j + 1, by omega, by omega, by go_num⟩
      case measure => simp [intOf]; omega

set_option maxHeartbeats 4000000 in
theorem rquoted_no (s : ByteArray) (w : World) (hc : ¬ ∃ k, Closes s k) (hs : s.size ≤ 140737488355328) (hp : 0 < s.size) :
    Calls Tryz.prog 56 #[.string s, .int .i64 0] w (SomeFault w) := by
  have C := Lib.hid hc
  have B := Lib.hid (fun o => boxed w o)
  have I39 := Lib.hid (show insB 39 = false by decide)
  clear hc
  go_enter Tryz.func56, Tryz.ntmps56
  go_wp2
  go_loop [6] (fun i => ∃ j : Nat, 1 ≤ j ∧ j ≤ s.size ∧ i = .int .i64 j ∧ InTo s j) (fun i => s.size - (intOf i).toNat)
  case atStart => exact ⟨1, by omega, by omega, by go_num, inTo_one s⟩
  case round =>
    obtain ⟨j, hj1, hj2, rfl, hI⟩ := hrel
    have I := Lib.hid hI
    clear hI
    by_cases hlt : j < s.size
    · have hb1 := Ch.byte_le (s[j]'hlt)
      cases hi : insB ((s[j]'hlt).toNat : Int) with
      | true =>
        have I2 := Lib.hid (inTo_step I.out hlt hi)
        have HI := Lib.hid hi
        clear hi
        go_wp2_with (go_at_call 75; refine (rinside_any _ _ (by omega) (by omega)).mono ?_; rw [HI.out]; rintro e w' ⟨rfl, rfl⟩)
        go_round
        case rel => exact ⟨j + 1, by omega, by omega, by go_num, I2.out⟩
        case measure => simp [intOf]; omega
      | false =>
        have HI := Lib.hid hi
        clear hi
        by_cases e3 : ((s[j]'hlt).toNat : Int) = 39
        · by_cases e4 : j = 1
          · subst e4
            go_wp2_with (go_at_call 75; refine (rinside_any _ _ (by omega) (by omega)).mono ?_; rw [I39.out]; rintro e w' ⟨rfl, rfl⟩)
            exact bodyPost_ret (v := .tuple #[.int .i64 0, .agg #[.int .i64 2, .int .i64 1]]) (by simp [results, Tryz.results56, go_sem]) rfl ⟨2, 1, rfl, rfl, B.out _⟩
          · by_cases e5 : 24 ≤ j
            · have e6 : ¬ (j : Int) = 1 := by omega
              go_wp2_with (go_at_call 75; refine (rinside_any _ _ (by omega) (by omega)).mono ?_; rw [I39.out]; rintro e w' ⟨rfl, rfl⟩)
              exact bodyPost_ret (v := .tuple #[.int .i64 0, .agg #[.int .i64 5, .int .i64 0]]) (by simp [results, Tryz.results56, go_sem]) rfl ⟨5, 0, rfl, rfl, B.out _⟩
            · exact absurd ⟨j, by omega, by omega, I.out, hlt, by omega⟩ C.out
        · have e7 : (((s[j]'hlt).toNat : Int) != 39) = true := by simpa using e3
          clear e3
          go_wp2_with (go_at_call 75; refine (rinside_any _ _ (by omega) (by omega)).mono ?_; rw [HI.out]; rintro e w' ⟨rfl, rfl⟩)
          exact bodyPost_ret (v := .tuple #[.int .i64 0, .agg #[.int .i64 2, .int .i64 j]]) (by simp [results, Tryz.results56, go_sem]) rfl ⟨2, _, rfl, rfl, B.out _⟩
    · go_wp2_with (go_at_call 75; fail)
      exact bodyPost_ret (v := .tuple #[.int .i64 0, .agg #[.int .i64 4, .int .i64 s.size]]) (by simp [results, Tryz.results56, go_sem]) rfl ⟨4, _, rfl, rfl, B.out _⟩

theorem head_empty {s : ByteArray} (h : ¬ 0 < s.size) : headB s = false := by
  have : s.data.toList = [] := by
    have : s.data.toList.length = s.size := rfl
    exact List.eq_nil_of_length_eq_zero (by omega)
  unfold headB
  rw [this]; rfl
theorem empty_list {s : ByteArray} (h : ¬ 0 < s.size) : s.toList = [] := by
  rw [ByteArray.toList_eq]
  have : s.data.toList.length = s.size := rfl
  exact List.eq_nil_of_length_eq_zero (by omega)
theorem full_list {s : ByteArray} (h : 0 < s.size) : ¬ s.toList = [] := by
  rw [ByteArray.toList_eq]
  intro e
  have : s.data.toList.length = s.size := rfl
  rw [e] at this
  simp at this
  omega

set_option maxHeartbeats 2000000 in
theorem rq_any (s : ByteArray) (w : World) (hs : s.size ≤ 140737488355328) : Calls Tryz.prog 38 #[.string s] w (Is (.bool (quoS s)) w) := by
  by_cases hp : 0 < s.size
  · have hl := full_list hp
    have hl2 : s.toList.isEmpty = false := by simpa using hl
    cases h0 : headB s with
    | false =>
      have E := Lib.hid (quo_no (head_no h0))
      have e0 : (((s[0]'hp).toNat : Int) != 39) = true := by
        rw [bne_iff_ne]
        intro e
        exact head_no h0 ⟨hp, by omega⟩
      clear h0
      go_enter Tryz.func38, Tryz.ntmps38
      go_wp2
      go_ret
      exact ⟨bool_of E.out, .refl _ _⟩
    | true =>
      obtain ⟨_, h39⟩ := head_yes h0
      have h39' : (((s[0]'hp).toNat : Int) != 39) = false := by simp [h39]
      by_cases hc : ∃ k, Closes s k
      · obtain ⟨k, hc⟩ := hc
        have E := Lib.hid (quo_some (head_yes h0) hc)
        have Q := Lib.hid (rquoted_yes s k w hc hs)
        clear h0 h39
        by_cases e : k + 1 = s.size
        · rw [decide_eq_true e] at E
          have e' : ((k : Int) + 1) = (s.size : Int) := by omega
          rw [e'] at Q
          clear hc e e'
          go_enter Tryz.func38, Tryz.ntmps38
          go_wp2_with (go_at_call 56; refine Q.out.mono ?_; rintro e w' ⟨rfl, hb⟩; have HB := Lib.hid hb; clear hb)
          go_ret
          exact ⟨bool_of E.out, step HB.out (boxed _ _)⟩
        · rw [decide_eq_false e] at E
          have e' : (((k : Int) + 1) == (s.size : Int)) = false := by
            rw [beq_eq_false_iff_ne]
            omega
          clear hc e
          go_enter Tryz.func38, Tryz.ntmps38
          go_wp2_with (go_at_call 56; refine Q.out.mono ?_; rintro e w' ⟨rfl, hb⟩; have HB := Lib.hid hb; clear hb)
          go_ret
          exact ⟨bool_of E.out, step HB.out (boxed _ _)⟩
      · have E := Lib.hid (quo_none hc)
        have Q := Lib.hid (rquoted_no s w hc hs hp)
        clear hc h0 h39
        go_enter Tryz.func38, Tryz.ntmps38
        go_wp2_with (go_at_call 56; refine Q.out.mono ?_; rintro e w' ⟨q, x, hq, rfl, hb⟩; have HB := Lib.hid hb; clear hb)
        go_ret
        exact ⟨bool_of E.out, step HB.out (boxed _ _)⟩
  · have hl := empty_list hp
    have E := Lib.hid (quo_no (head_no (head_empty hp)))
    go_enter Tryz.func38, Tryz.ntmps38
    go_wp2
    go_ret
    exact ⟨bool_of E.out, .refl _ _⟩

/-! ### A plain name -/

theorem named_any (s : ByteArray) (w : World) (hs : s.size ≤ 140737488355328) : Calls Tryz.prog 61 #[.string s] w (Is (.bool (plnS s)) w) := by
  have N := Lib.hid (Ch.name_any s w)
  by_cases h : s.size ≤ 24
  · have E := Lib.hid (show plnS s = Ch.namB s.data.toList by simp [plnS, h])
    go_enter Tryz.func61, Tryz.ntmps61
    go_wp2_with (go_at_call 77; refine N.out.mono ?_; rintro e w' ⟨rfl, hb⟩; have HB := Lib.hid hb; clear hb)
    go_ret
    exact ⟨bool_of E.out, HB.out⟩
  · have E := Lib.hid (show plnS s = false by simp [plnS, h])
    go_enter Tryz.func61, Tryz.ntmps61
    go_wp2
    go_ret
    exact ⟨bool_of E.out, .refl _ _⟩

theorem rplain_any (s : ByteArray) (w : World) (hs : s.size ≤ 140737488355328) : Calls Tryz.prog 37 #[.string s] w (Is (.bool (plnS s)) w) := by
  have N := Lib.hid (Ch.rname_any s w (by unfold maxLen; omega))
  cases hn : Ch.namB s.data.toList with
  | false =>
    rw [hn] at N
    have E := Lib.hid (show plnS s = false by simp [plnS, hn])
    clear hn
    go_enter Tryz.func37, Tryz.ntmps37
    go_wp2_with (go_at_call 55; refine N.out.mono ?_; rintro e w' ⟨rfl, rfl⟩)
    go_ret
    exact ⟨bool_of E.out, .refl _ _⟩
  | true =>
    rw [hn] at N
    have E := Lib.hid (show plnS s = decide (s.size ≤ 24) by simp [plnS, hn])
    clear hn
    go_enter Tryz.func37, Tryz.ntmps37
    go_wp2_with (go_at_call 55; refine N.out.mono ?_; rintro e w' ⟨rfl, rfl⟩)
    go_ret
    refine ⟨bool_of ?_, .refl _ _⟩
    rw [E.out, Bool.eq_iff_iff]
    simp only [decide_eq_true_eq]
    omega

end Go.Proofs.YtkggpkbdekebcaaGreat.Gr
