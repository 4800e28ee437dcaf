/-
  Package gtok: comments, and tokens that begin with a %. Conditions: a text of at most 8192 bytes; the library's variable MaxLen holds a number.
-/
import Derived.Test.YtimfiaphhomelaaGreatGtokLeaf
import Derived.Test.YtimfiaphhomelaaGreatShelf
namespace Go.Proofs.YtimfiaphhomelaaGreat.Tk
open Go.RowKit Go.Maps
set_option linter.unusedVariables false
set_option linter.unusedSimpArgs false

/-- The library's variable MaxLen holds a number. -/
def MaxLen (w : World) : Prop := ∃ m, w.cell? ⟨0, 0, none⟩ = some (.int .i64 m)
theorem MaxLen.keep {w w' : World} (h : MaxLen w) (hb : Below w.heap.size w w') : MaxLen w' := by
  obtain ⟨m, hm⟩ := h
  exact ⟨m, Gr.cell_later hb hm⟩

theorem hasPrefix_any (s p : ByteArray) (w : World) : Calls Tryz.prog 99 #[.string s, .string p] w (Just (.bool (Lib.hasPrefix s.data.toList p.data.toList)) w) :=
  (Tryz.strings_HasPrefix s p w).mono fun _ _ h => ⟨h.1, h.2.symm⟩

theorem index_any (s p : ByteArray) (w : World) (hs : s.size < 4294967281) (hm : MaxLen w) : Calls Tryz.prog 104 #[.string s, .string p] w (Just (.int .i64 (Lib.index s.data.toList p.data.toList)) w) := by
  obtain ⟨m, hm⟩ := hm
  exact (Tryz.strings_Index s p m w hs hm).mono fun _ _ h => ⟨h.1, h.2.symm⟩

theorem extract_drop (s : ByteArray) (a : Nat) : (s.extract a s.size).data.toList = s.data.toList.drop a := Lib.extract_to_end s a

theorem has_two (l : List UInt8) (b c : UInt8) : Lib.hasPrefix l [b, c] = (l.head? == some b && l.tail.head? == some c) := by
  cases l with
  | nil => rfl
  | cons x r =>
    cases r with
    | nil => simp [Lib.hasPrefix, List.isPrefixOf]
    | cons y r => simp [Lib.hasPrefix, List.isPrefixOf, Bool.beq_comm]

theorem sla_no {r : List UInt8} (h : (r.head? == some 42) = false) : slaL r = .bad 2 0 := by
  unfold slaL
  split
  · simp at h
  · rfl

set_option maxHeartbeats 2000000 in
theorem comment_any (s : ByteArray) (x : Int) (a : Nat) (y : Step) (w : World) (hx : x = (a : Int)) (ha : a < s.size) (hc : s[a] = 47) (hy : (slaL (s.data.toList.drop (a + 1))).from a = y) (hs : s.size ≤ 8192) (hm : MaxLen w) :
    Calls Tryz.prog 77 #[.string s, .int .i64 x] w (Just (gave y) w) := by
  subst hx
  have HP := Lib.hid (hasPrefix_any (s.extract a s.size) ⟨#[47, 42]⟩ w)
  rw [extract_drop, show (⟨#[47, 42]⟩ : ByteArray).data.toList = [47, 42] from rfl, has_two, drop_cons s a ha, hc] at HP
  simp only [List.head?_cons, List.tail_cons, beq_self_eq_true, Bool.true_and] at HP
  cases hh : ((s.data.toList.drop (a + 1)).head? == some 42) with
  | false =>
    rw [hh] at HP
    rw [sla_no hh] at hy
    have HY := Lib.hid hy
    clear hy hc hh
    go_enter Tryz.func77, Tryz.ntmps77
    go_wp2_with (first
      | (go_at_call 99; refine HP.out.mono ?_; rintro e w' ⟨rfl, rfl⟩)
      | (go_at_call 82; refine (wrong_any _ _ _).mono ?_; rintro e w' ⟨rfl, rfl⟩))
    go_ret3
    exact ⟨bad_of HY.out (by omega), rfl⟩
  | true =>
    rw [hh] at HP
    have h1 : a + 1 < s.size := by
      rcases Nat.lt_or_ge (a + 1) s.size with h | h
      · exact h
      · rw [List.drop_eq_nil_of_le (by rw [data_length]; exact h)] at hh
        simp at hh
    rw [drop_cons s (a + 1) h1] at hh hy
    have h42 : s[a + 1] = 42 := by simpa using hh
    rw [h42] at hy
    have HI := Lib.hid (index_any (s.extract (a + 2) s.size) ⟨#[42, 47]⟩ w (by simp; omega) hm)
    rw [extract_drop, show (⟨#[42, 47]⟩ : ByteArray).data.toList = [42, 47] from rfl] at HI
    simp only [slaL] at hy
    unfold comL at hy
    rw [show a + 1 + 1 = a + 2 by omega] at hy
    have hlen : (s.data.toList.drop (a + 2)).length = s.size - (a + 2) := by rw [List.length_drop, data_length]
    have hge := Lib.index_ge (s.data.toList.drop (a + 2)) [42, 47]
    have hle := index_le (s.data.toList.drop (a + 2)) [42, 47]
    rw [hlen] at hle hy
    generalize Lib.index (s.data.toList.drop (a + 2)) [42, 47] = m at *
    clear hh h42 hc hlen
    by_cases hneg : m < 0
    · rw [if_pos hneg] at hy
      have HY := Lib.hid hy
      clear hy hle
      go_enter Tryz.func77, Tryz.ntmps77
      go_wp2_with (first
        | (go_at_call 99; refine HP.out.mono ?_; rintro e w' ⟨rfl, rfl⟩)
        | (go_at_call 104; refine HI.out.mono ?_; rintro e w' ⟨rfl, rfl⟩)
        | (go_at_call 27; refine (new_fault _ _ _ (by decide)).mono ?_; rintro e w' ⟨rfl, rfl⟩))
      go_ret3
      exact ⟨bad_of HY.out (by omega), rfl⟩
    · rw [if_neg hneg] at hy
      have HY := Lib.hid hy
      have hle2 := hle hneg
      simp at hle2
      clear hy hle
      go_enter Tryz.func77, Tryz.ntmps77
      go_wp2_with (first
        | (go_at_call 99; refine HP.out.mono ?_; rintro e w' ⟨rfl, rfl⟩)
        | (go_at_call 104; refine HI.out.mono ?_; rintro e w' ⟨rfl, rfl⟩))
      go_ret3
      exact ⟨tok_of HY.out (by omega), rfl⟩

theorem pct_text (s : ByteArray) (a n : Nat) (ha : a < s.size) (hc : s[a] = 37) (t : List UInt8) : ((s.extract a (a + 1 + n)).toList == 37 :: t) = ((s.data.toList.drop (a + 1)).take n == t) := by
  rw [ByteArray.toList_eq, Lib.extract_data, drop_cons s a ha, hc, show a + 1 + n - a = n + 1 by omega, List.take_succ_cons]
  simp

set_option maxHeartbeats 2000000 in
theorem percent_any (s : ByteArray) (x : Int) (a : Nat) (y : Step) (w : World) (hx : x = (a : Int)) (ha : a < s.size) (hc : s[a] = 37) (hy : (pctL (s.data.toList.drop (a + 1))).from a = y) (hs : s.size ≤ 8192) :
    Calls Tryz.prog 78 #[.string s, .int .i64 x] w (Just (gave y) w) := by
  subst hx
  have HP := Lib.hid (hasPrefix_any (s.extract a s.size) ⟨#[37, 37]⟩ w)
  rw [extract_drop, show (⟨#[37, 37]⟩ : ByteArray).data.toList = [37, 37] from rfl, has_two, drop_cons s a ha, hc] at HP
  simp only [List.head?_cons, List.tail_cons, beq_self_eq_true, Bool.true_and] at HP
  unfold pctL at hy
  cases hh : ((s.data.toList.drop (a + 1)).head? == some 37) with
  | true =>
    rw [hh] at HP
    rw [if_pos (by simpa using hh)] at hy
    have HY := Lib.hid hy
    clear hy hc hh
    go_enter Tryz.func78, Tryz.ntmps78
    go_wp2_with (go_at_call 99; refine HP.out.mono ?_; rintro e w' ⟨rfl, rfl⟩)
    go_ret3
    exact ⟨tok_of HY.out (by omega), rfl⟩
  | false =>
    rw [hh] at HP
    rw [if_neg (by simpa using hh)] at hy
    have hle := spanL_le letB (s.data.toList.drop (a + 1))
    have SP := Lib.hid (fun x b hx hb => span_letter s x (a + 1) b w hx hb (by omega) hs)
    have e1 := pct_text s a (spanL letB (s.data.toList.drop (a + 1))) ha hc [116, 111, 107, 101, 110]
    have e2 := pct_text s a (spanL letB (s.data.toList.drop (a + 1))) ha hc [115, 116, 97, 114, 116]
    rw [List.length_drop, data_length] at hle
    obtain ⟨n, hn⟩ : ∃ n, spanL letB (s.data.toList.drop (a + 1)) = n := ⟨_, rfl⟩
    rw [hn] at hle e1 e2 hy
    have SQ := Lib.hid (SP.out ((a : Int) + 1) (a + 1 + n) (by omega) (by rw [hn]))
    have tl : ((s.data.toList.drop (a + 1)).take n).length = n := by rw [List.length_take, List.length_drop, data_length]; omega
    clear SP hn hh
    cases h1 : ((s.data.toList.drop (a + 1)).take n == [116, 111, 107, 101, 110]) with
    | true =>
      rw [h1] at e1
      have h1' : (s.data.toList.drop (a + 1)).take n = [116, 111, 107, 101, 110] := by simpa using h1
      rw [if_pos h1'] at hy
      rw [h1'] at tl
      simp only [List.length_cons, List.length_nil] at tl
      have HY := Lib.hid hy
      clear hy hc h1 h1' e2
      subst tl
      go_enter Tryz.func78, Tryz.ntmps78
      go_wp2_with (first
        | (go_at_call 99; refine HP.out.mono ?_; rintro e w' ⟨rfl, rfl⟩)
        | (go_at_call 105; refine SQ.out.mono ?_; rintro e w' ⟨rfl, rfl⟩))
      go_ret3
      exact ⟨tok_of HY.out (by omega), rfl⟩
    | false =>
      rw [h1] at e1
      rw [if_neg (by simpa using h1)] at hy
      clear h1
      cases h2 : ((s.data.toList.drop (a + 1)).take n == [115, 116, 97, 114, 116]) with
      | true =>
        rw [h2] at e2
        have h2' : (s.data.toList.drop (a + 1)).take n = [115, 116, 97, 114, 116] := by simpa using h2
        rw [if_pos h2'] at hy
        rw [h2'] at tl
        simp only [List.length_cons, List.length_nil] at tl
        have HY := Lib.hid hy
        clear hy hc h2 h2'
        subst tl
        go_enter Tryz.func78, Tryz.ntmps78
        go_wp2_with (first
          | (go_at_call 99; refine HP.out.mono ?_; rintro e w' ⟨rfl, rfl⟩)
          | (go_at_call 105; refine SQ.out.mono ?_; rintro e w' ⟨rfl, rfl⟩))
        go_ret3
        exact ⟨tok_of HY.out (by omega), rfl⟩
      | false =>
        rw [h2] at e2
        rw [if_neg (by simpa using h2)] at hy
        have HY := Lib.hid hy
        clear hy hc h2 tl
        go_enter Tryz.func78, Tryz.ntmps78
        go_wp2_with (first
          | (go_at_call 99; refine HP.out.mono ?_; rintro e w' ⟨rfl, rfl⟩)
          | (go_at_call 105; refine SQ.out.mono ?_; rintro e w' ⟨rfl, rfl⟩)
          | (go_at_call 82; refine (wrong_any _ _ _).mono ?_; rintro e w' ⟨rfl, rfl⟩))
        go_ret3
        exact ⟨bad_of HY.out (by omega), rfl⟩

end Go.Proofs.YtimfiaphhomelaaGreat.Tk
