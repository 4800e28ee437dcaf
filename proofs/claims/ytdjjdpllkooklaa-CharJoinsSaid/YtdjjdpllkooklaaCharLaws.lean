/-
  The walks of the three statements of layer 1: for every byte and every string that fits a machine each answers true and writes nothing that was there before. No other condition.
-/
import Derived.Test.YtdjjdpllkooklaaCharAwake
import Derived.Deep.DeepCutAuto
import Derived.Laws.BytesArg
namespace Go.Proofs.Ytdjjdpllkooklaa.Ch
open Go.RowKit

theorem step {w w1 w2 : World} (h : Below w.heap.size w w1) (k : Below w1.heap.size w1 w2) : Below w.heap.size w w2 := h.trans (k.mono h.size)

/-! ### What follows from the forms -/

theorem join_names (l m : List UInt8) (h : namB l = true) (k : namB m = true ∨ digB m = true) : namB (l ++ m) = true := by
  cases l with
  | nil => simp [namB] at h
  | cons b r =>
    simp only [namB, Bool.and_eq_true] at h
    simp only [List.cons_append, namB, List.all_append, Bool.and_eq_true]
    refine ⟨h.1, h.2, ?_⟩
    rcases k with k | k
    · rw [every_name, Bool.and_eq_true] at k
      have := k.1
      simp only [everyB, Bool.and_eq_true] at this
      exact this.2
    · simp only [digB, everyB, Bool.and_eq_true, List.all_eq_true] at k ⊢
      intro x hx
      have := k.2 x hx
      simp only [inD, inN, Bool.or_eq_true] at this ⊢
      exact .inr this

theorem all_plain (l : List UInt8) (h : plaB l = true) : (l.all fun b => inP (cb b)) = true := by
  rw [every_plain, Bool.and_eq_true] at h
  have := h.1
  simp only [everyB, Bool.and_eq_true] at this
  exact this.2

theorem plain_sign (l m : List UInt8) (c : UInt8) (h : inP (cb c) = false) : plaB (l ++ ([c] ++ m)) = false := by
  rw [Bool.eq_false_iff]
  intro hp
  have := all_plain _ hp
  rw [List.all_eq_true] at this
  rw [this c (by simp)] at h
  cases h

theorem plain_name (l : List UInt8) (h : namB l = true) : plaB l = true := by
  cases l with
  | nil => simp [namB] at h
  | cons b r =>
    simp only [namB, Bool.and_eq_true, List.all_eq_true] at h
    simp only [plaB, Bool.and_eq_true, List.all_eq_true]
    refine ⟨⟨?_, ?_⟩, fun x hx => ?_⟩
    · cases e : (b == 35)
      · rfl
      · have : b = 35 := by simpa using e
        subst this
        exact absurd h.1 (by decide)
    · simp [inP, h.1]
    · have := h.2 x hx
      simp only [inN, inP, Bool.or_eq_true] at this ⊢
      rcases this with e | e
      · exact .inl (.inr e)
      · exact .inl (.inl e)

theorem plain_digits (l : List UInt8) (h : digB l = true) : plaB l = true := by
  cases l with
  | nil => simp [digB, everyB] at h
  | cons b r =>
    simp only [digB, everyB, Bool.and_eq_true, List.all_cons, List.all_eq_true] at h
    simp only [plaB, Bool.and_eq_true, List.all_eq_true]
    refine ⟨⟨?_, ?_⟩, fun x hx => ?_⟩
    · cases e : (b == 35)
      · rfl
      · have : b = 35 := by simpa using e
        subst this
        exact absurd h.2.1 (by decide)
    · have := h.2.1
      simp only [inD] at this
      simp [inP, this]
    · have := h.2.2 x hx
      simp only [inD, inP, Bool.or_eq_true] at this ⊢
      exact .inl (.inl this)

theorem plain_join (l m : List UInt8) (h : plaB l = true) (k : plaB m = true) : plaB (l ++ m) = true := by
  have hm := all_plain _ k
  cases l with
  | nil => simp [plaB] at h
  | cons b r =>
    simp only [plaB, Bool.and_eq_true] at h
    simp only [List.cons_append, plaB, List.all_append, Bool.and_eq_true]
    exact ⟨h.1, h.2, hm⟩

/-! ### The walks -/

theorem conv_one (c : UInt8) (w : World) :
    (convert 28 9 (.slice (some ⟨w.heap.size, 0, none⟩) 1 1)).run Try.prog (w.alloc (.cells #[.int .u8 (c.toNat : Int)] 5)) = .ok (.string ⟨#[c]⟩) (w.alloc (.cells #[.int .u8 (c.toNat : Int)] 5)) := by
  rw [run_convert_bytes_arg (P := Try.prog) (w.alloc (.cells #[.int .u8 (c.toNat : Int)] 5)) 28 5 Try.underlying28 Try.underlying5 w.heap.size 0 1 1 [(c.toNat : Int)] rfl (fun i hi => by
    obtain rfl : i = 0 := by omega
    simp [World.cell?_alloc_new]) 9 Try.underlying9]
  simp [strOfNums]

theorem alloc_step {w w1 : World} (h : Below w.heap.size w w1) (o : Obj) : Below w.heap.size w (w1.alloc o) := h.alloc h.size o

set_option maxHeartbeats 1000000 in
set_option maxRecDepth 100000 in
theorem tells (c : Int) (s : ByteArray) (w : World) (h0 : 0 ≤ c) (h1 : c ≤ 255) (hs : s.size ≤ maxLen) :
    Calls Try.prog 3 #[.int .u8 c, .string s] w (Yes w) := by
  by_cases hl : 2000 < s.size
  · go_enter Try.func3, Try.ntmps3
    go_wp2_with (go_at_call 6; refine (awake_any _).mono ?_; rintro e w' ⟨rfl, hb⟩)
    go_ret
    exact ⟨rfl, hb⟩
  · go_enter Try.func3, Try.ntmps3
    go_wp2_with (first
      | (go_at_call 7; refine (class_any _ _ ?_ ?_).mono ?_; exact h0; exact h1; rintro e w' ⟨rfl, rfl⟩)
      | (go_at_call 8; refine (rclass_any _ _).mono ?_; rintro e w' ⟨rfl, rfl⟩)
      | (go_at_call 9; refine (special_any _ _).mono ?_; rintro e w' ⟨rfl, rfl⟩)
      | (go_at_call 10; refine (rspecial_any _ _).mono ?_; rintro e w' ⟨rfl, rfl⟩)
      | (go_at_call 11; refine (name_any _ _).mono ?_; rintro e w1 ⟨rfl, hb1⟩)
      | (go_at_call 12; refine (rname_any _ _ hs).mono ?_; rintro e w' ⟨rfl, rfl⟩)
      | (go_at_call 13; refine (digits_any _ _).mono ?_; rintro e w2 ⟨rfl, hb2⟩)
      | (go_at_call 14; refine (rdigits_any _ _ hs).mono ?_; rintro e w' ⟨rfl, rfl⟩)
      | (go_at_call 15; refine (plain_any _ _).mono ?_; rintro e w3 ⟨rfl, hb3⟩)
      | (go_at_call 16; refine (rplain_any _ _ hs).mono ?_; rintro e w' ⟨rfl, rfl⟩)
      | (go_at_call 17; refine (assign_any _ _).mono ?_; rintro e w4 ⟨rfl, hb4⟩)
      | (go_at_call 18; refine (rassign_any _ _ hs).mono ?_; rintro e w' ⟨rfl, rfl⟩)
      | (go_at_call 6; refine (awake_any _).mono ?_; rintro e w5 ⟨rfl, hb5⟩))
    go_ret
    exact ⟨rfl, step (step (step (step hb1 hb2) hb3) hb4) hb5⟩

set_option maxHeartbeats 2000000 in
set_option maxRecDepth 100000 in
theorem joins (s t : ByteArray) (c : UInt8) (w : World) (_hs : s.size ≤ maxLen) (_ht : t.size ≤ maxLen) :
    Calls Try.prog 4 #[.string s, .string t, .int .u8 (c.toNat : Int)] w (Yes w) := by
  have hW : Below w.heap.size w w := Below.refl _ _
  by_cases hl1 : s.size ≤ 1000
  · by_cases hl2 : t.size ≤ 1000
    · have hc0 : 0 ≤ (c.toNat : Int) := by omega
      have hc1 := byte_le c
      go_enter Try.func4, Try.ntmps4
      go_upto_region 3 with fail
      go_cut [33] (fun s33 wx => s33 = .bool false ∧ Below w.heap.size w wx)
      case first =>
        by_cases n : namB s.data.toList = true
        · by_cases k : namB t.data.toList = true ∨ digB t.data.toList = true
          · have hj := join_names _ _ n k
            go_wp2_with (first
              | (go_at_call 11; refine (name_any _ _).mono ?_; rintro e wn ⟨rfl, hb⟩; replace hW := step hW hb; clear hb)
              | (go_at_call 13; refine (digits_any _ _).mono ?_; rintro e wn ⟨rfl, hb⟩; replace hW := step hW hb; clear hb))
            all_goals
              go_meet
              exact ⟨rfl, hW⟩
          · have k1 : namB t.data.toList = false := by simpa using fun h => k (.inl h)
            have k2 : digB t.data.toList = false := by simpa using fun h => k (.inr h)
            clear k
            go_wp2_with (first
              | (go_at_call 11; refine (name_any _ _).mono ?_; rintro e wn ⟨rfl, hb⟩; replace hW := step hW hb; clear hb)
              | (go_at_call 13; refine (digits_any _ _).mono ?_; rintro e wn ⟨rfl, hb⟩; replace hW := step hW hb; clear hb))
            go_meet
            exact ⟨rfl, hW⟩
        · have n' : namB s.data.toList = false := by simpa using n
          clear n
          go_wp2_with (first
            | (go_at_call 11; refine (name_any _ _).mono ?_; rintro e wn ⟨rfl, hb⟩; replace hW := step hW hb; clear hb)
            | (go_at_call 13; refine (digits_any _ _).mono ?_; rintro e wn ⟨rfl, hb⟩; replace hW := step hW hb; clear hb))
          go_meet
          exact ⟨rfl, hW⟩
      case rest =>
        clear hW
        obtain ⟨rfl, hW⟩ := hcut
        go_upto_region 6 with (go_at_call 7; refine (class_any _ _ ?_ ?_).mono ?_; exact hc0; exact hc1; rintro e w' ⟨rfl, rfl⟩)
        go_cut [55] (fun s55 wx => s55 = .bool false ∧ Below w.heap.size w wx)
        case first =>
          by_cases c3 : cls (c.toNat : Int) = 3
          · go_wp2
            go_meet
            exact ⟨rfl, hW⟩
          · by_cases c4 : cls (c.toNat : Int) = 4
            · go_wp2
              go_meet
              exact ⟨rfl, hW⟩
            · by_cases c8 : cls (c.toNat : Int) = 8
              · go_wp2
                go_meet
                exact ⟨rfl, hW⟩
              · have hq : plaB (s.data.toList ++ c :: t.data.toList) = false := plain_sign _ _ c (by simp [inP, cb, c3, c4, c8])
                have b3 : (cls (c.toNat : Int) != 3) = true := by simp [c3]
                have b4 : (cls (c.toNat : Int) != 4) = true := by simp [c4]
                have b8 : (cls (c.toNat : Int) != 8) = true := by simp [c8]
                have hcv := conv_one c wc
                replace hW := alloc_step hW (.cells #[.int .u8 (c.toNat : Int)] 5)
                clear c3 c4 c8
                go_wp2_with (go_at_call 15; refine (plain_any _ _).mono ?_; rintro e wn ⟨rfl, hb⟩; replace hW := step hW hb; clear hb)
                go_meet
                exact ⟨rfl, hW⟩
        case rest =>
          clear hW
          obtain ⟨rfl, hW⟩ := hcut
          by_cases p : plaB s.data.toList = true
          · by_cases q : plaB t.data.toList = true
            · have j := plain_join _ _ p q
              go_wp2_with (first
                | (go_at_call 11; refine (name_any _ _).mono ?_; rintro e wn ⟨rfl, hb⟩; replace hW := step hW hb; clear hb)
                | (go_at_call 13; refine (digits_any _ _).mono ?_; rintro e wn ⟨rfl, hb⟩; replace hW := step hW hb; clear hb)
                | (go_at_call 15; refine (plain_any _ _).mono ?_; rintro e wn ⟨rfl, hb⟩; replace hW := step hW hb; clear hb)
                | (go_at_call 6; refine (awake_any _).mono ?_; rintro e wn ⟨rfl, hb⟩; replace hW := step hW hb; clear hb))
              all_goals
                go_ret
                exact ⟨rfl, hW⟩
            · have q' : plaB t.data.toList = false := by simpa using q
              clear q
              go_wp2_with (first
                | (go_at_call 11; refine (name_any _ _).mono ?_; rintro e wn ⟨rfl, hb⟩; replace hW := step hW hb; clear hb)
                | (go_at_call 13; refine (digits_any _ _).mono ?_; rintro e wn ⟨rfl, hb⟩; replace hW := step hW hb; clear hb)
                | (go_at_call 15; refine (plain_any _ _).mono ?_; rintro e wn ⟨rfl, hb⟩; replace hW := step hW hb; clear hb)
                | (go_at_call 6; refine (awake_any _).mono ?_; rintro e wn ⟨rfl, hb⟩; replace hW := step hW hb; clear hb))
              all_goals
                go_ret
                exact ⟨rfl, hW⟩
          · have p' : plaB s.data.toList = false := by simpa using p
            have n' : namB s.data.toList = false := by simpa using fun h => p (plain_name _ h)
            have d' : digB s.data.toList = false := by simpa using fun h => p (plain_digits _ h)
            clear p
            go_wp2_with (first
              | (go_at_call 11; refine (name_any _ _).mono ?_; rintro e wn ⟨rfl, hb⟩; replace hW := step hW hb; clear hb)
              | (go_at_call 13; refine (digits_any _ _).mono ?_; rintro e wn ⟨rfl, hb⟩; replace hW := step hW hb; clear hb)
              | (go_at_call 15; refine (plain_any _ _).mono ?_; rintro e wn ⟨rfl, hb⟩; replace hW := step hW hb; clear hb)
              | (go_at_call 6; refine (awake_any _).mono ?_; rintro e wn ⟨rfl, hb⟩; replace hW := step hW hb; clear hb))
            go_ret
            exact ⟨rfl, hW⟩
    · go_enter Try.func4, Try.ntmps4
      go_wp2_with (go_at_call 6; refine (awake_any _).mono ?_; rintro e wn ⟨rfl, hb⟩; replace hW := step hW hb; clear hb)
      go_ret
      exact ⟨rfl, hW⟩
  · go_enter Try.func4, Try.ntmps4
    go_wp2_with (go_at_call 6; refine (awake_any _).mono ?_; rintro e wn ⟨rfl, hb⟩; replace hW := step hW hb; clear hb)
    go_ret
    exact ⟨rfl, hW⟩

/-! ### The first one -/

theorem asg_of_name (l m : List UInt8) (h : namB l = true) : asg (l ++ 61 :: m) = l.length := by
  have hf : ∀ b ∈ l, b ≠ 61 := by
    intro b hb e
    subst e
    rw [every_name, Bool.and_eq_true] at h
    have := h.1
    simp only [everyB, Bool.and_eq_true, List.all_eq_true] at this
    exact absurd (this.2 _ hb) (by decide)
  rw [asg_at l m hf, if_pos h]

theorem first_sign (l : List UInt8) : (∀ b ∈ l, b ≠ 61) ∨ ∃ k : Nat, ∃ hk : k < l.length, l[k] = 61 ∧ Free l k := by
  induction l with
  | nil => exact .inl (by simp)
  | cons b r ih =>
    by_cases hb : b = 61
    · exact .inr ⟨0, by simp, hb, fun j _ h => by omega⟩
    · rcases ih with ih | ⟨k, hk, he, hf⟩
      · refine .inl fun c hc => ?_
        rcases List.mem_cons.mp hc with rfl | hc
        · exact hb
        · exact ih c hc
      · refine .inr ⟨k + 1, by simpa using hk, by simpa using he, fun j hj hlt => ?_⟩
        cases j with
        | zero => simpa using hb
        | succ j => simpa using hf j (by simpa using hj) (by omega)

theorem asg_not_name (l m : List UInt8) (h : namB l = false) : asg (l ++ 61 :: m) = -1 ∨ ∃ k : Nat, k < l.length ∧ asg (l ++ 61 :: m) = k ∧ namB (l.take k) = true := by
  rcases first_sign l with hf | ⟨k, hk, he, hf⟩
  · rw [asg_at l m hf, h]
    exact .inl rfl
  · have e : l ++ 61 :: m = l.take k ++ 61 :: (l.drop (k + 1) ++ 61 :: m) := by
      conv => lhs; rw [split_at l k hk, he]
      simp
    rw [e, asg_at _ _ (free_take l k hf)]
    by_cases hn : namB (l.take k) = true
    · refine .inr ⟨k, hk, ?_, hn⟩
      rw [if_pos hn, List.length_take, Nat.min_eq_left (Nat.le_of_lt hk)]
    · rw [if_neg hn]
      exact .inl rfl

set_option maxHeartbeats 2000000 in
set_option maxRecDepth 100000 in
theorem assigns (s t : ByteArray) (w : World) :
    Calls Try.prog 5 #[.string s, .string t] w (Yes w) := by
  have hW : Below w.heap.size w w := Below.refl _ _
  by_cases hl1 : s.size ≤ 1000
  · by_cases hl2 : t.size ≤ 1000
    · by_cases n : namB s.data.toList = true
      · have ha : asg (s.data.toList ++ 61 :: t.data.toList) = (s.size : Int) := by rw [asg_of_name _ _ n]; simp
        go_enter Try.func5, Try.ntmps5
        go_wp2_with (first
          | (go_at_call 11; refine (name_any _ _).mono ?_; rintro e wn ⟨rfl, hb⟩; replace hW := step hW hb; clear hb)
          | (go_at_call 17; refine (assign_any _ _).mono ?_; rintro e wn ⟨rfl, hb⟩; replace hW := step hW hb; clear hb)
          | (go_at_call 6; refine (awake_any _).mono ?_; rintro e wn ⟨rfl, hb⟩; replace hW := step hW hb; clear hb))
        go_ret
        exact ⟨rfl, hW⟩
      · have n' : namB s.data.toList = false := by simpa using n
        clear n
        rcases asg_not_name s.data.toList t.data.toList n' with ha | ⟨k, hk, ha, hn⟩
        · go_enter Try.func5, Try.ntmps5
          go_wp2_with (first
            | (go_at_call 11; refine (name_any _ _).mono ?_; rintro e wn ⟨rfl, hb⟩; replace hW := step hW hb; clear hb)
            | (go_at_call 17; refine (assign_any _ _).mono ?_; rintro e wn ⟨rfl, hb⟩; replace hW := step hW hb; clear hb)
            | (go_at_call 6; refine (awake_any _).mono ?_; rintro e wn ⟨rfl, hb⟩; replace hW := step hW hb; clear hb))
          go_ret
          exact ⟨rfl, hW⟩
        · have hk' : k < s.size := by simpa using hk
          clear hk
          go_enter Try.func5, Try.ntmps5
          go_wp2_with (first
            | (go_at_call 11; refine (name_any _ _).mono ?_; rintro e wn ⟨rfl, hb⟩; replace hW := step hW hb; clear hb)
            | (go_at_call 17; refine (assign_any _ _).mono ?_; rintro e wn ⟨rfl, hb⟩; replace hW := step hW hb; clear hb)
            | (go_at_call 6; refine (awake_any _).mono ?_; rintro e wn ⟨rfl, hb⟩; replace hW := step hW hb; clear hb))
          go_ret
          exact ⟨rfl, hW⟩
    · go_enter Try.func5, Try.ntmps5
      go_wp2_with (go_at_call 6; refine (awake_any _).mono ?_; rintro e wn ⟨rfl, hb⟩; replace hW := step hW hb; clear hb)
      go_ret
      exact ⟨rfl, hW⟩
  · go_enter Try.func5, Try.ntmps5
    go_wp2_with (go_at_call 6; refine (awake_any _).mono ?_; rintro e wn ⟨rfl, hb⟩; replace hW := step hW hb; clear hb)
    go_ret
    exact ⟨rfl, hW⟩

end Go.Proofs.Ytdjjdpllkooklaa.Ch
