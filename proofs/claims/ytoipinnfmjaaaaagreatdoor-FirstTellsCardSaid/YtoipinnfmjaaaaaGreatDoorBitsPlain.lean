/-
  Sets of numbers below 4096 as functions to Bool, the 64-bit words that hold them, and what Go's operations on these words come to. Of no program.
-/
import Derived.Laws.BitsAllLaws
import Derived.Lib.TrailingZeros
namespace Go.Proofs.YtoipinnfmjaaaaaGreatDoor.Bt

/-! ### Words -/

/-- The number whose bits are the first n of f. -/
def nb (f : Nat → Bool) : Nat → Nat
  | 0 => 0
  | n + 1 => nb f n ||| (if f n then 2 ^ n else 0)

theorem nb_lt (f : Nat → Bool) : ∀ n, nb f n < 2 ^ n
  | 0 => by simp [nb]
  | n + 1 => by
    have h := nb_lt f n
    have h2 : 2 ^ (n + 1) = 2 ^ n + 2 ^ n := by rw [Nat.pow_succ]; omega
    refine Nat.or_lt_two_pow (by omega) ?_
    split <;> omega

theorem nb_bit (f : Nat → Bool) (j : Nat) : ∀ n, (nb f n).testBit j = (decide (j < n) && f j)
  | 0 => by simp [nb]
  | n + 1 => by
    rw [nb, Nat.testBit_or, nb_bit f j n]
    by_cases h : f n = true
    · simp only [h, if_true, Nat.testBit_two_pow]
      by_cases hj : n = j
      · subst hj; simp [h]
      · have : decide (j < n + 1) = decide (j < n) := by simp; omega
        simp [hj, this]
    · simp only [h]
      by_cases hj : n = j
      · subst hj; simp [h]
      · have : decide (j < n + 1) = decide (j < n) := by simp; omega
        simp [this]

/-- Word k of a set. -/
def wd (B : Nat → Bool) (k : Nat) : Nat := nb (fun j => B (64 * k + j)) 64

theorem wd_lt (B : Nat → Bool) (k : Nat) : wd B k < 18446744073709551616 := nb_lt _ 64

theorem wd_bit (B : Nat → Bool) (k j : Nat) : (wd B k).testBit j = (decide (j < 64) && B (64 * k + j)) := nb_bit _ j 64

theorem high_bit {v j : Nat} (hv : v < 18446744073709551616) (hj : ¬ j < 64) : v.testBit j = false :=
  Nat.testBit_lt_two_pow (Nat.lt_of_lt_of_le hv (Nat.pow_le_pow_right (n := 2) (by decide) (show 64 ≤ j by omega)))

theorem eq_wd {v : Nat} {B : Nat → Bool} {k : Nat} (hv : v < 18446744073709551616) (h : ∀ j, j < 64 → v.testBit j = B (64 * k + j)) : v = wd B k := by
  apply Nat.eq_of_testBit_eq
  intro j
  rw [wd_bit]
  by_cases hj : j < 64
  · simp [hj, h j hj]
  · simp [hj, high_bit hv hj]

theorem wd_congr {B C : Nat → Bool} {k : Nat} (h : ∀ j, j < 64 → B (64 * k + j) = C (64 * k + j)) : wd B k = wd C k :=
  eq_wd (wd_lt _ _) fun j hj => by rw [wd_bit]; simp [hj, h j hj]

theorem not_bit {v j : Nat} (hv : v < 18446744073709551616) : (18446744073709551615 - v).testBit j = (decide (j < 64) && !v.testBit j) := by
  have := Nat.testBit_two_pow_sub_succ (x := v) (n := 64) hv j
  rw [← this]
  congr 1
  omega

theorem wd_and (B C : Nat → Bool) (k : Nat) : wd B k &&& wd C k = wd (fun i => B i && C i) k :=
  eq_wd (Nat.lt_of_le_of_lt Nat.and_le_left (wd_lt B k)) fun j hj => by rw [Nat.testBit_and, wd_bit, wd_bit]; simp [hj]

theorem wd_or (B C : Nat → Bool) (k : Nat) : wd B k ||| wd C k = wd (fun i => B i || C i) k :=
  eq_wd (Nat.or_lt_two_pow (n := 64) (wd_lt B k) (wd_lt C k)) fun j hj => by rw [Nat.testBit_or, wd_bit, wd_bit]; simp [hj]

theorem wd_andNot (B C : Nat → Bool) (k : Nat) : wd B k &&& (18446744073709551615 - wd C k) = wd (fun i => B i && !C i) k :=
  eq_wd (Nat.lt_of_le_of_lt Nat.and_le_left (wd_lt B k)) fun j hj => by rw [Nat.testBit_and, not_bit (wd_lt C k), wd_bit, wd_bit]; simp [hj]

theorem wd_zero {B : Nat → Bool} {k : Nat} : wd B k = 0 ↔ ∀ j, j < 64 → B (64 * k + j) = false := by
  constructor
  · intro h j hj
    have := wd_bit B k j
    rw [h] at this
    simpa [hj] using this.symm
  · intro h
    exact (eq_wd (B := B) (k := k) (v := 0) (by omega) fun j hj => by simp [h j hj]).symm

theorem wd_ne {B : Nat → Bool} {k : Nat} (h : wd B k ≠ 0) : ∃ j, j < 64 ∧ B (64 * k + j) = true := by
  refine Classical.byContradiction fun hn => h (wd_zero.2 fun j hj => ?_)
  cases hb : B (64 * k + j) with
  | false => rfl
  | true => exact absurd ⟨j, hj, hb⟩ hn

/-- The one bit of a number in its word. -/
def bitOf (i : Nat) : Nat := 2 ^ (i % 64)

theorem bitOf_lt (i : Nat) : bitOf i < 18446744073709551616 :=
  Nat.pow_lt_pow_of_lt (a := 2) (n := i % 64) (m := 64) (by decide) (Nat.mod_lt _ (by decide))

theorem bitOf_pos (i : Nat) : 0 < bitOf i := Nat.two_pow_pos _

theorem bitOf_wd (i : Nat) : bitOf i = wd (fun j => decide (j = i)) (i / 64) :=
  eq_wd (bitOf_lt i) fun j hj => by
    rw [bitOf, Nat.testBit_two_pow]
    congr 1
    apply propext
    omega

/-- With i. -/
def put (B : Nat → Bool) (i : Nat) : Nat → Bool := fun j => B j || decide (j = i)
/-- Without i. -/
def cut (B : Nat → Bool) (i : Nat) : Nat → Bool := fun j => B j && !decide (j = i)
/-- With what C has below n. -/
def orr (B : Nat → Bool) (n : Nat) (C : Nat → Bool) : Nat → Bool := fun j => B j || (C j && decide (j < n))

theorem put_word (B : Nat → Bool) (i : Nat) : wd B (i / 64) ||| bitOf i = wd (put B i) (i / 64) := by
  rw [bitOf_wd, wd_or]; rfl

theorem cut_word (B : Nat → Bool) (i : Nat) : wd B (i / 64) &&& (18446744073709551615 - bitOf i) = wd (cut B i) (i / 64) := by
  rw [bitOf_wd, wd_andNot]; rfl

theorem put_other (B : Nat → Bool) (i k : Nat) (h : k ≠ i / 64) : wd (put B i) k = wd B k :=
  wd_congr fun j hj => by
    have : ¬ (64 * k + j = i) := by omega
    simp [put, this]

theorem cut_other (B : Nat → Bool) (i k : Nat) (h : k ≠ i / 64) : wd (cut B i) k = wd B k :=
  wd_congr fun j hj => by
    have : ¬ (64 * k + j = i) := by omega
    simp [cut, this]

theorem has_word (B : Nat → Bool) (i : Nat) : (wd B (i / 64) &&& bitOf i ≠ 0) ↔ B i = true := by
  rw [bitOf_wd, wd_and]
  constructor
  · intro h
    obtain ⟨j, hj, hb⟩ := wd_ne h
    simp only [Bool.and_eq_true, decide_eq_true_eq] at hb
    rw [← hb.2]; exact hb.1
  · intro h hz
    have := wd_zero.1 hz (i % 64) (Nat.mod_lt _ (by decide))
    have e : 64 * (i / 64) + i % 64 = i := by omega
    rw [e] at this
    simp [h] at this

/-- Below n. -/
def under (n : Nat) : Nat → Bool := fun j => decide (j < n)

theorem under_word (n k : Nat) (h : 64 * k < n) : (2 ^ (n - 64 * k) % 18446744073709551616 + 18446744073709551615) % 18446744073709551616 = wd (under n) k := by
  by_cases hb : 64 ≤ n - 64 * k
  · have hd : 2 ^ (n - 64 * k) % 18446744073709551616 = 0 := by
      have : 2 ^ 64 ∣ 2 ^ (n - 64 * k) := Nat.pow_dvd_pow 2 hb
      exact Nat.mod_eq_zero_of_dvd this
    rw [hd]
    exact eq_wd (by omega) fun j hj => by
      have := Nat.testBit_two_pow_sub_one 64 j
      rw [show (0 + 18446744073709551615) % 18446744073709551616 = 2 ^ 64 - 1 from rfl, this]
      have h3 : 64 * k + j < n := by omega
      simp [under, hj, h3]
  · have hlt : 2 ^ (n - 64 * k) < 18446744073709551616 := Nat.pow_lt_pow_of_lt (a := 2) (m := 64) (by decide) (by omega)
    have hp : 0 < 2 ^ (n - 64 * k) := Nat.two_pow_pos _
    have e : (2 ^ (n - 64 * k) % 18446744073709551616 + 18446744073709551615) % 18446744073709551616 = 2 ^ (n - 64 * k) - 1 := by
      generalize 2 ^ (n - 64 * k) = p at *
      omega
    rw [e]
    refine eq_wd (by generalize 2 ^ (n - 64 * k) = p at *; omega) fun j hj => by
      rw [Nat.testBit_two_pow_sub_one, under]
      clear e hlt hp
      congr 1
      apply propext
      omega

theorem more_word (B C : Nat → Bool) (n k : Nat) : (wd C k &&& wd (under n) k) &&& (18446744073709551615 - wd B k) = wd (fun i => (C i && under n i) && !B i) k := by
  rw [wd_and, wd_andNot]

theorem orr_word (B C : Nat → Bool) (n k : Nat) : wd B k ||| wd (fun i => (C i && under n i) && !B i) k = wd (orr B n C) k := by
  rw [wd_or]
  refine wd_congr fun j _ => ?_
  simp only [orr, under]
  cases B (64 * k + j) <;> simp

theorem more_zero {B C : Nat → Bool} {n k : Nat} (h : wd (fun i => (C i && under n i) && !B i) k = 0) : wd (orr B n C) k = wd B k := by
  rw [← orr_word, h, Nat.or_zero]

/-! ### Below a number -/

/-- What comes from m on. -/
def from_ (B : Nat → Bool) (m : Nat) : Nat → Bool := fun i => B i && decide (m ≤ i)

theorem below_first (B : Nat → Bool) (m : Nat) : wd B (m / 64) &&& (18446744073709551615 - (bitOf m - 1)) = wd (from_ B m) (m / 64) := by
  have hb := bitOf_lt m
  have hp := bitOf_pos m
  refine eq_wd (Nat.lt_of_le_of_lt Nat.and_le_left (wd_lt B _)) fun j hj => ?_
  rw [Nat.testBit_and, not_bit (by omega), wd_bit, bitOf, Nat.testBit_two_pow_sub_one, from_]
  have e : (decide (j < m % 64)) = !decide (m ≤ 64 * (m / 64) + j) := by
    rw [Bool.eq_iff_iff]; simp; omega
  simp [hj, e]

theorem below_later (B : Nat → Bool) (m k : Nat) (h : m / 64 < k) : wd (from_ B m) k = wd B k :=
  wd_congr fun j _ => by
    have : m ≤ 64 * k + j := by omega
    simp [from_, this]

/-- The lowest bit of a word that is not 0. -/
theorem ctz_bit {v : Nat} (h0 : v ≠ 0) (hv : v < 18446744073709551616) : Go.Lib.ctz 64 v < 64 ∧ v.testBit (Go.Lib.ctz 64 v) = true ∧ ∀ j, j < Go.Lib.ctz 64 v → v.testBit j = false := by
  obtain ⟨m, hm, hk⟩ := Go.Lib.ctzFrom_spec 64 v (by omega) hv
  have e : Go.Lib.ctz 64 v = Go.Lib.ctzFrom 64 v := by simp [Go.Lib.ctz, h0]
  rw [e]
  generalize Go.Lib.ctzFrom 64 v = c at *
  subst hm
  refine ⟨hk, ?_, fun j hj => ?_⟩
  · rw [Nat.mul_comm, Nat.testBit_mul_two_pow]
    simp [Nat.testBit_zero]
  · rw [Nat.mul_comm, Nat.testBit_mul_two_pow]
    have : ¬ c ≤ j := by omega
    simp [this]

/-! ### What is asked of a set -/

/-- Its numbers, in order. -/
def els (B : Nat → Bool) : List Nat := (List.range 4096).filter B

/-- Nothing from n on. -/
def Upto (B : Nat → Bool) (n : Nat) : Prop := n ≤ 4096 ∧ ∀ i, n ≤ i → B i = false

theorem els_at {B : Nat → Bool} {n : Nat} (h : Upto B n) : els B = (List.range n).filter B := by
  obtain ⟨d, hd⟩ : ∃ d, 4096 = n + d := ⟨4096 - n, by have := h.1; omega⟩
  rw [els, hd, List.range_add, List.filter_append]
  have : ((List.range d).map (n + ·)).filter B = [] := by
    rw [List.filter_eq_nil_iff]
    intro x hx
    obtain ⟨y, _, rfl⟩ := List.mem_map.1 hx
    simp [h.2 (n + y) (by omega)]
  rw [this, List.append_nil]

theorem els_len (B : Nat → Bool) : (els B).length ≤ 4096 := by
  have := List.length_filter_le B (List.range 4096)
  simpa [els] using this

theorem els_eq {B C : Nat → Bool} {n m : Nat} (hB : Upto B n) (hC : Upto C m) : els B = els C ↔ B = C := by
  constructor
  · intro h
    funext i
    have hb : i ∈ els B ↔ i ∈ els C := by rw [h]
    simp only [els, List.mem_filter, List.mem_range] at hb
    by_cases hi : i < 4096
    · rw [Bool.eq_iff_iff]; simpa [hi] using hb
    · rw [hB.2 i (by have := hB.1; omega), hC.2 i (by have := hC.1; omega)]
  · intro h; rw [h]

theorem Upto.put {B : Nat → Bool} {n i : Nat} (h : Upto B n) (hi : i < n) : Upto (put B i) n :=
  ⟨h.1, fun j hj => by
    have : ¬ j = i := by omega
    simp [Bt.put, h.2 j hj, this]⟩

theorem Upto.cut {B : Nat → Bool} {n : Nat} (i : Nat) (h : Upto B n) : Upto (cut B i) n :=
  ⟨h.1, fun j hj => by simp [Bt.cut, h.2 j hj]⟩

theorem Upto.orr {B : Nat → Bool} {n : Nat} (h : Upto B n) (C : Nat → Bool) : Upto (orr B n C) n :=
  ⟨h.1, fun j hj => by
    have : ¬ j < n := by omega
    simp [Bt.orr, h.2 j hj, this]⟩

theorem Upto.none : Upto (fun _ => false) 0 := ⟨by omega, fun _ _ => rfl⟩
theorem Upto.empty {n : Nat} (h : n ≤ 4096) : Upto (fun _ => false) n := ⟨h, fun _ _ => rfl⟩

theorem put_same {B : Nat → Bool} {i : Nat} (h : B i = true) : put B i = B := by
  funext j
  by_cases e : j = i
  · subst e; simp [put, h]
  · simp [put, e]

theorem cut_same {B : Nat → Bool} {i : Nat} (h : B i = false) : cut B i = B := by
  funext j
  by_cases e : j = i
  · subst e; simp [cut, h]
  · simp [cut, e]

/-- Has it i? -/
def has (B : Nat → Bool) (i : Int) : Bool := decide (0 ≤ i) && B i.toNat

/-- Behind Put of i, and what Put tells. -/
def putI (B : Nat → Bool) (n : Nat) (i : Int) : Nat → Bool := if 0 ≤ i ∧ i < n then put B i.toNat else B
def putR (B : Nat → Bool) (n : Nat) (i : Int) : Bool := decide (0 ≤ i) && decide (i < n) && !B i.toNat
/-- Behind Drop of i. -/
def cutI (B : Nat → Bool) (i : Int) : Nat → Bool := if 0 ≤ i then cut B i.toNat else B

theorem Upto.putI {B : Nat → Bool} {n : Nat} (h : Upto B n) (i : Int) : Upto (putI B n i) n := by
  unfold Bt.putI
  split
  · exact h.put (by omega)
  · exact h

theorem Upto.cutI {B : Nat → Bool} {n : Nat} (h : Upto B n) (i : Int) : Upto (cutI B i) n := by
  unfold Bt.cutI
  split
  · exact h.cut _
  · exact h

/-- Have both one number? -/
def meet (B C : Nat → Bool) : Bool := (List.range 4096).any fun i => B i && C i

theorem meet_yes {B C : Nat → Bool} {n : Nat} (hB : Upto B n) {i : Nat} (hb : B i = true) (hc : C i = true) : meet B C = true := by
  rw [meet, List.any_eq_true]
  have : i < n := by
    refine Classical.byContradiction fun h => ?_
    rw [hB.2 i (by omega)] at hb
    cases hb
  exact ⟨i, List.mem_range.2 (by have := hB.1; omega), by simp [hb, hc]⟩

theorem meet_no {B C : Nat → Bool} (h : ∀ i, B i = true → C i = false) : meet B C = false := by
  rw [meet, List.any_eq_false]
  intro i _
  cases hb : B i with
  | false => simp
  | true => simp [h i hb]

/-- Has C a number below n that B has not? -/
def gains (B : Nat → Bool) (n : Nat) (C : Nat → Bool) : Bool := (List.range n).any fun i => C i && !B i

theorem gains_yes {B C : Nat → Bool} {n i : Nat} (hi : i < n) (hb : B i = false) (hc : C i = true) : gains B n C = true := by
  rw [gains, List.any_eq_true]
  exact ⟨i, List.mem_range.2 hi, by simp [hb, hc]⟩

theorem gains_no {B C : Nat → Bool} {n : Nat} (h : ∀ i, i < n → C i = true → B i = true) : gains B n C = false := by
  rw [gains, List.any_eq_false]
  intro i hi
  cases hc : C i with
  | false => simp
  | true => simp [h i (List.mem_range.1 hi) hc]

/-- The least that is at least 'from', or -1. -/
def atLeast (B : Nat → Bool) (i : Int) (j : Nat) : Bool := decide (i ≤ (j : Int)) && B j
def orNone : Option Nat → Int
  | some j => (j : Int)
  | none => -1
def next (B : Nat → Bool) (i : Int) : Int := orNone ((List.range 4096).find? (atLeast B i))

theorem next_yes {B : Nat → Bool} {n m : Nat} (hB : Upto B n) (i : Int) (hm : i ≤ m) (hb : B m = true) (hl : ∀ j : Nat, i ≤ j → j < m → B j = false) : next B i = m := by
  have hlt : m < n := by
    refine Classical.byContradiction fun h => ?_
    rw [hB.2 m (by omega)] at hb
    cases hb
  have h : (List.range 4096).find? (atLeast B i) = some m := by
    rw [List.find?_range_eq_some]
    refine ⟨by simp [atLeast, hm, hb], by simp; have := hB.1; omega, fun j hj => ?_⟩
    by_cases hij : i ≤ (j : Int)
    · simp [atLeast, hl j hij hj]
    · simp [atLeast, hij]
  simp only [next, h, orNone]

theorem next_no {B : Nat → Bool} (i : Int) (hl : ∀ j : Nat, i ≤ j → B j = false) : next B i = -1 := by
  have h : (List.range 4096).find? (atLeast B i) = none := by
    rw [List.find?_eq_none]
    intro j _
    by_cases hij : i ≤ (j : Int)
    · simp [atLeast, hl j hij]
    · simp [atLeast, hij]
  simp only [next, h, orNone]

theorem next_or {B : Nat → Bool} (i : Int) : (next B i = -1 ∧ ∀ j : Nat, j < 4096 → i ≤ j → B j = false) ∨ ∃ m : Nat, next B i = m ∧ m < 4096 ∧ i ≤ m ∧ B m = true ∧ ∀ j : Nat, i ≤ j → j < m → B j = false := by
  cases h : (List.range 4096).find? (atLeast B i) with
  | none =>
    refine .inl ⟨by simp only [next, h, orNone], fun j hj hij => ?_⟩
    have := List.find?_eq_none.1 h j (List.mem_range.2 hj)
    simpa [atLeast, hij] using this
  | some m =>
    have hs := List.find?_range_eq_some.1 h
    obtain ⟨h1, h2, h3⟩ := hs
    simp only [atLeast, Bool.and_eq_true, decide_eq_true_eq] at h1
    refine .inr ⟨m, by simp only [next, h, orNone], by simpa using h2, h1.1, h1.2, fun j hij hj => ?_⟩
    have := h3 j hj
    simpa [atLeast, hij] using this

theorem next_max (B : Nat → Bool) (i : Int) : next B (max i 0) = next B i := by
  have : atLeast B (max i 0) = atLeast B i := by
    funext j
    unfold atLeast
    congr 1
    rw [Bool.eq_iff_iff]; simp; omega
  simp only [next, this]

/-! ### How many -/

/-- How many bits of K bits are set. -/
theorem range_succ_map (K : Nat) : List.range (K + 1) = 0 :: (List.range K).map Nat.succ := List.range_succ_eq_map

/-- The sum of the digits to base 2^w. -/
def vs (w : Nat) : Nat → Nat → Nat
  | 0, _ => 0
  | K + 1, x => x % 2 ^ w + vs w K (x / 2 ^ w)

theorem vs_bits : ∀ (K x : Nat), vs 1 K x = ((List.range K).filter x.testBit).length
  | 0, x => by simp [vs]
  | K + 1, x => by
    rw [vs, vs_bits K, range_succ_map, List.filter_cons, List.filter_map, Nat.pow_one]
    have e : (x.testBit ∘ Nat.succ) = (x / 2).testBit := by funext j; simp [Nat.testBit_succ]
    rw [e, Nat.testBit_zero]
    have h2 : x % 2 = 0 ∨ x % 2 = 1 := by omega
    rcases h2 with h | h <;> simp [h, Nat.add_comm]

theorem vs_word (B : Nat → Bool) (k : Nat) : vs 1 64 (wd B k) = ((List.range 64).filter fun j => B (64 * k + j)).length := by
  rw [vs_bits]
  congr 1
  refine List.filter_congr fun j hj => ?_
  rw [wd_bit]
  simp [List.mem_range.1 hj]

theorem count_step (B : Nat → Bool) (k : Nat) : ((List.range (64 * (k + 1))).filter B).length = ((List.range (64 * k)).filter B).length + vs 1 64 (wd B k) := by
  rw [vs_word, show 64 * (k + 1) = 64 * k + 64 from by omega, List.range_add, List.filter_append, List.length_append, List.filter_map, List.length_map]
  rfl

theorem count_len (B : Nat → Bool) (k : Nat) : ((List.range k).filter B).length ≤ k := by
  have := List.length_filter_le B (List.range k)
  simpa using this

theorem count_end {B : Nat → Bool} {n k : Nat} (hB : Upto B n) (hk : n ≤ 64 * k) : ((List.range (64 * k)).filter B).length = (els B).length := by
  have h : ((List.range (64 * k)).filter B) = (List.range n).filter B := by
    obtain ⟨d, hd⟩ : ∃ d, 64 * k = n + d := ⟨64 * k - n, by omega⟩
    rw [hd, List.range_add, List.filter_append]
    have : ((List.range d).map (n + ·)).filter B = [] := by
      rw [List.filter_eq_nil_iff]
      intro x hx
      obtain ⟨y, _, rfl⟩ := List.mem_map.1 hx
      simp [hB.2 (n + y) (by omega)]
    rw [this, List.append_nil]
  rw [h, ← els_at hB]

theorem vs_le (K x : Nat) : vs 1 K x ≤ K := by
  rw [vs_bits]
  have := List.length_filter_le x.testBit (List.range K)
  simpa using this

/-! ### The sum of the bits, by halves -/

/-- K masks of w bits each, every second w bits. -/
def msk (w : Nat) : Nat → Nat
  | 0 => 0
  | K + 1 => msk w K * 2 ^ (w + w) + (2 ^ w - 1)

theorem and_split (W q r m s : Nat) (hr : r < 2 ^ W) (hs : s < 2 ^ W) : (q * 2 ^ W + r) &&& (m * 2 ^ W + s) = (q &&& m) * 2 ^ W + (r &&& s) := by
  have hrs : r &&& s < 2 ^ W := Nat.and_lt_two_pow _ hs
  apply Nat.eq_of_testBit_eq
  intro j
  rw [Nat.testBit_and, Nat.mul_comm q, Nat.mul_comm m, Nat.mul_comm (q &&& m), Nat.testBit_two_pow_mul_add _ hr, Nat.testBit_two_pow_mul_add _ hs, Nat.testBit_two_pow_mul_add _ hrs]
  split <;> simp

theorem msk_and (w K x : Nat) : x &&& msk w (K + 1) = (x / 2 ^ (w + w) &&& msk w K) * 2 ^ (w + w) + x % 2 ^ w := by
  have hp : 2 ^ w * 2 ^ w = 2 ^ (w + w) := by rw [Nat.pow_add]
  have h1 : 0 < 2 ^ w := Nat.two_pow_pos w
  have h2 : 2 ^ w ≤ 2 ^ w * 2 ^ w := Nat.le_mul_of_pos_right _ h1
  have e : x = x / 2 ^ (w + w) * 2 ^ (w + w) + x % 2 ^ (w + w) := by rw [Nat.mul_comm]; exact (Nat.div_add_mod x _).symm
  conv => lhs; rw [e]
  rw [msk, and_split _ _ _ _ _ (Nat.mod_lt _ (Nat.two_pow_pos _)) (by omega), Nat.and_two_pow_sub_one_eq_mod, ← hp, Nat.mod_mul_right_mod]

/-- One halving: neighbours are summed. -/
def hv (w K x : Nat) : Nat := (x / 2 ^ w &&& msk w K) + (x &&& msk w K)

theorem hv_succ (w K x : Nat) : hv w (K + 1) x = hv w K (x / 2 ^ (w + w)) * 2 ^ (w + w) + (x / 2 ^ w % 2 ^ w + x % 2 ^ w) := by
  have e : x / 2 ^ w / 2 ^ (w + w) = x / 2 ^ (w + w) / 2 ^ w := by rw [Nat.div_div_eq_div_mul, Nat.div_div_eq_div_mul, Nat.mul_comm]
  rw [hv, msk_and, msk_and, e, hv, Nat.add_mul]
  omega

theorem vs_two (w K x : Nat) : vs w (K + 1 + 1) x = x % 2 ^ w + (x / 2 ^ w % 2 ^ w + vs w K (x / 2 ^ (w + w))) := by
  rw [vs, vs, Nat.div_div_eq_div_mul, ← Nat.pow_add]

theorem vs_hv (w : Nat) (hw : 0 < w) : ∀ (K x : Nat), vs (w + w) K (hv w K x) = vs w (K + K) x
  | 0, x => by simp [vs]
  | K + 1, x => by
    have hp : 2 ^ w * 2 ^ w = 2 ^ (w + w) := by rw [Nat.pow_add]
    have h1 : 2 ≤ 2 ^ w := by
      have := Nat.pow_le_pow_right (n := 2) (by decide) (show 1 ≤ w from hw)
      simpa using this
    have h2 : 2 * 2 ^ w ≤ 2 ^ w * 2 ^ w := Nat.mul_le_mul_right _ h1
    have m1 := Nat.mod_lt (x / 2 ^ w) (show 2 ^ w > 0 by omega)
    have m2 := Nat.mod_lt x (show 2 ^ w > 0 by omega)
    have hlt : x / 2 ^ w % 2 ^ w + x % 2 ^ w < 2 ^ (w + w) := by omega
    rw [hv_succ, vs, show K + 1 + (K + 1) = K + K + 1 + 1 from by omega, vs_two, Nat.mul_comm, Nat.mul_add_mod, Nat.mod_eq_of_lt hlt, Nat.mul_add_div (by omega), Nat.div_eq_of_lt hlt, Nat.add_zero, vs_hv w hw K]
    omega

end Go.Proofs.YtoipinnfmjaaaaaGreatDoor.Bt
