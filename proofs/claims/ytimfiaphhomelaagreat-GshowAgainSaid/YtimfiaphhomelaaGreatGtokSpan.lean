/-
  Package gtok: its tests on a byte, and how far bytes fit. Condition: a text of at most 8192 bytes.
-/
import Derived.Test.YtimfiaphhomelaaGreatGramAt
import Derived.Test.YtimfiaphhomelaaGreatCharClass
import Derived.Test.YtimfiaphhomelaaGreatGtokPlain
namespace Go.Proofs.YtimfiaphhomelaaGreat.Tk
open Go.RowKit Go.Maps
set_option linter.unusedVariables false
set_option linter.unusedSimpArgs false

theorem letter_any (x : Int) (w : World) (h0 : 0 ≤ x) (h1 : x ≤ 255) : Calls Tryz.prog 80 #[.int .u8 x] w fun e w' => e = .returned (.bool (Ch.cls x == 4)) ∧ w = w' := by
  go_enter Tryz.func80, Tryz.ntmps80
  go_wp2_with (go_at_call 106; refine (Ch.class_any _ _ ?_ ?_).mono ?_; exact h0; exact h1; rintro e w' ⟨rfl, rfl⟩)
  go_ret
  exact ⟨rfl, rfl⟩

theorem inName_any (x : Int) (w : World) (h0 : 0 ≤ x) (h1 : x ≤ 255) : Calls Tryz.prog 107 #[.int .u8 x] w fun e w' => e = .returned (.bool (Ch.inN (Ch.cls x))) ∧ w = w' := by
  cases h : (Ch.cls x == 4) with
  | true =>
    have L := Lib.hid (letter_any x w h0 h1)
    rw [h] at L
    have E := Lib.hid (show Ch.inN (Ch.cls x) = true by simp [Ch.inN, h])
    clear h
    go_enter Tryz.func107, Tryz.ntmps107
    go_wp2_with (go_at_call 80; refine L.out.mono ?_; rintro e w' ⟨rfl, rfl⟩)
    go_ret
    exact ⟨Gr.bool_of E.out, rfl⟩
  | false =>
    have L := Lib.hid (letter_any x w h0 h1)
    rw [h] at L
    have E := Lib.hid (show Ch.inN (Ch.cls x) = (Ch.cls x == 3) by simp [Ch.inN, h])
    clear h
    go_enter Tryz.func107, Tryz.ntmps107
    go_wp2_with (first
      | (go_at_call 80; refine L.out.mono ?_; rintro e w' ⟨rfl, rfl⟩)
      | (go_at_call 106; refine (Ch.class_any _ _ ?_ ?_).mono ?_; exact h0; exact h1; rintro e w' ⟨rfl, rfl⟩))
    go_ret
    exact ⟨Gr.bool_of E.out, rfl⟩

/-- The bytes from a place on fit, up to another one. -/
def Fit (p : UInt8 → Bool) (s : ByteArray) (a b : Nat) : Prop := ∀ i (h : i < s.size), a ≤ i → i < b → p s[i] = true
theorem fit_zero (p : UInt8 → Bool) (s : ByteArray) (a : Nat) : Fit p s a a := fun _ _ h1 h2 => absurd h2 (by omega)
theorem fit_step {p : UInt8 → Bool} {s : ByteArray} {a b : Nat} (h : Fit p s a b) (hb : b < s.size) (e : p s[b] = true) : Fit p s a (b + 1) := fun i hi h1 h2 => by
  by_cases he : i = b
  · subst he
    exact e
  · exact h i hi h1 (by omega)
theorem data_length (s : ByteArray) : s.data.toList.length = s.size := rfl
theorem drop_get (s : ByteArray) (a i : Nat) (h : a + i < s.size) : (s.data.toList.drop a)[i]'(by rw [List.length_drop, data_length]; omega) = s[a + i] := by
  rw [List.getElem_drop]
  rfl
theorem drop_cons (s : ByteArray) (i : Nat) (h : i < s.size) : s.data.toList.drop i = s[i] :: s.data.toList.drop (i + 1) := by
  rw [List.drop_eq_getElem_cons (show i < s.data.toList.length from h)]
  rfl
theorem fit_end {p : UInt8 → Bool} {s : ByteArray} {a b : Nat} (h : Fit p s a b) (ha : a ≤ b) (hb : b ≤ s.size) (he : ∀ h : b < s.size, p s[b] = false) : a + spanL p (s.data.toList.drop a) = b := by
  have : spanL p (s.data.toList.drop a) = b - a := by
    refine spanL_at (by rw [List.length_drop, data_length]; omega) (fun i hi hl => ?_) (fun hi => ?_)
    · rw [List.length_drop, data_length] at hi
      rw [drop_get s a i (by omega)]
      exact h (a + i) (by omega) (by omega) (by omega)
    · rw [List.length_drop, data_length] at hi
      rw [drop_get s a (b - a) (by omega)]
      have e : a + (b - a) = b := by omega
      simp only [e]
      exact he (by omega)
  omega

theorem span_letter (s : ByteArray) (x : Int) (a b : Nat) (w : World) (hx : x = (a : Int)) (hb : a + spanL letB (s.data.toList.drop a) = b) (ha : a ≤ s.size) (hs : s.size ≤ 8192) :
    Calls Tryz.prog 105 #[.string s, .int .i64 x, .func (.func 80) #[] #[]] w fun e w' => e = .returned (.int .i64 (b : Int)) ∧ w = w' := by
  subst hx
  have HB := Lib.hid hb
  clear hb
  go_enter Tryz.func105, Tryz.ntmps105
  go_wp2
  go_loop [1] (fun i => ∃ j : Nat, a ≤ j ∧ j ≤ s.size ∧ i = .int .i64 j ∧ Fit letB s a j) (fun i => s.size - (intOf i).toNat)
  case atStart => exact ⟨a, by omega, ha, rfl, fit_zero _ _ _⟩
  case round =>
    obtain ⟨j, haj, hj, rfl, hF⟩ := hrel
    have F := Lib.hid hF
    clear hF
    by_cases hlt : j < s.size
    · have L := Lib.hid (letter_any ((s[j]'hlt).toNat : Int) w (by omega) (by have := (s[j]'hlt).toNat_lt; omega))
      cases hq : letB (s[j]'hlt) with
      | true =>
        rw [show (Ch.cls ((s[j]'hlt).toNat : Int) == 4) = true from hq] at L
        have F2 := Lib.hid (fit_step F.out hlt hq)
        clear hq F
        go_wp2_with (go_at_call 80; refine L.out.mono ?_; rintro e w' ⟨rfl, rfl⟩)
        go_round
        case rel => exact ⟨j + 1, by omega, by omega, by go_num, F2.out⟩
        case measure => simp [intOf]; omega
      | false =>
        rw [show (Ch.cls ((s[j]'hlt).toNat : Int) == 4) = false from hq] at L
        have E := Lib.hid (HB.out.symm.trans (fit_end F.out haj hj fun _ => hq))
        clear hq F
        go_wp2_with (go_at_call 80; refine L.out.mono ?_; rintro e w' ⟨rfl, rfl⟩)
        go_ret
        exact ⟨Gr.int_of (by rw [E.out]), rfl⟩
    · have E := Lib.hid (HB.out.symm.trans (fit_end F.out haj hj fun h => absurd h hlt))
      clear F
      go_wp2
      go_ret
      exact ⟨Gr.int_of (by rw [E.out]), rfl⟩

theorem span_inName (s : ByteArray) (x : Int) (a b : Nat) (w : World) (hx : x = (a : Int)) (hb : a + spanL inNB (s.data.toList.drop a) = b) (ha : a ≤ s.size) (hs : s.size ≤ 8192) :
    Calls Tryz.prog 105 #[.string s, .int .i64 x, .func (.func 107) #[] #[]] w fun e w' => e = .returned (.int .i64 (b : Int)) ∧ w = w' := by
  subst hx
  have HB := Lib.hid hb
  clear hb
  go_enter Tryz.func105, Tryz.ntmps105
  go_wp2
  go_loop [1] (fun i => ∃ j : Nat, a ≤ j ∧ j ≤ s.size ∧ i = .int .i64 j ∧ Fit inNB s a j) (fun i => s.size - (intOf i).toNat)
  case atStart => exact ⟨a, by omega, ha, rfl, fit_zero _ _ _⟩
  case round =>
    obtain ⟨j, haj, hj, rfl, hF⟩ := hrel
    have F := Lib.hid hF
    clear hF
    by_cases hlt : j < s.size
    · have L := Lib.hid (inName_any ((s[j]'hlt).toNat : Int) w (by omega) (by have := (s[j]'hlt).toNat_lt; omega))
      cases hq : inNB (s[j]'hlt) with
      | true =>
        rw [show Ch.inN (Ch.cls ((s[j]'hlt).toNat : Int)) = true from hq] at L
        have F2 := Lib.hid (fit_step F.out hlt hq)
        clear hq F
        go_wp2_with (go_at_call 107; refine L.out.mono ?_; rintro e w' ⟨rfl, rfl⟩)
        go_round
        case rel => exact ⟨j + 1, by omega, by omega, by go_num, F2.out⟩
        case measure => simp [intOf]; omega
      | false =>
        rw [show Ch.inN (Ch.cls ((s[j]'hlt).toNat : Int)) = false from hq] at L
        have E := Lib.hid (HB.out.symm.trans (fit_end F.out haj hj fun _ => hq))
        clear hq F
        go_wp2_with (go_at_call 107; refine L.out.mono ?_; rintro e w' ⟨rfl, rfl⟩)
        go_ret
        exact ⟨Gr.int_of (by rw [E.out]), rfl⟩
    · have E := Lib.hid (HB.out.symm.trans (fit_end F.out haj hj fun h => absurd h hlt))
      clear F
      go_wp2
      go_ret
      exact ⟨Gr.int_of (by rw [E.out]), rfl⟩

end Go.Proofs.YtimfiaphhomelaaGreat.Tk
