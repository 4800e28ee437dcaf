/-
  What package bits' loops over words tell of a set: Count, Meet, Same, Next. A nil set is one with no room.
-/
import Derived.Test.YtljblpekpmgmaaaGreatDoorBitsRead
import Derived.Deep.DeepCutAuto
namespace Go.Proofs.YtljblpekpmgmaaaGreatDoor.Bt
open Go.RowKit

/-- The numbers below 64k. -/
def cnt (B : Nat → Bool) (k : Nat) : Nat := ((List.range (64 * k)).filter B).length

theorem cnt_succ (B : Nat → Bool) (k : Nat) : cnt B (k + 1) = cnt B k + vs 1 64 (wd B k) := count_step B k
theorem cnt_zero (B : Nat → Bool) : cnt B 0 = 0 := by simp [cnt]
theorem cnt_le (B : Nat → Bool) (k : Nat) : cnt B k ≤ 64 * k := count_len B _
theorem cnt_end {B : Nat → Bool} {n : Nat} (h : Upto B n) : cnt B (sz n) = (els B).length := count_end h (by unfold sz; omega)

set_option maxHeartbeats 1000000 in
theorem count_any {v : Value} {n : Nat} {B : Nat → Bool} (w : World) (h : SetV v n B w) :
    Calls Tryz.prog 63 #[v] w fun e w' => e = .returned (.int .i64 (els B).length) ∧ w = w' := by
  have HS := Lib.hid (size_any w h)
  have HW := Lib.hid (word_any w h)
  have HO := Lib.hid (fun k => ones_any (wd B k) w (wd_lt B k))
  have HE := Lib.hid (cnt_end h.upto)
  have hb : sz n ≤ 64 := sz_le h.upto.1
  clear h
  go_enter Tryz.func63, Tryz.ntmps63
  go_wp2_with (go_at_call 80; refine HS.out.mono ?_; rintro e w' ⟨rfl, rfl⟩)
  go_loop [3, 7] (fun c i => ∃ k : Nat, k ≤ sz n ∧ i = .int .i64 k ∧ c = .int .i64 (cnt B k)) (fun _ i => sz n - (intOf i).toNat)
  case atStart => exact ⟨0, Nat.zero_le _, rfl, by rw [cnt_zero]; rfl⟩
  case round =>
    obtain ⟨k, hk, rfl, rfl⟩ := hrel
    have hc := cnt_le B k
    have hc0 : (0 : Int) ≤ (cnt B k : Int) := by omega
    by_cases hlt : k < sz n
    · have hv := vs_le 64 (wd B k)
      have HC := Lib.hid (cnt_succ B k)
      go_wp2_with (first | (go_at_call 82; refine (HW.out _).mono ?_; rintro e w' ⟨rfl, rfl⟩) | (go_at_call 81; refine (HO.out _).mono ?_; rintro e w' ⟨rfl, rfl⟩))
      go_round
      case rel => exact ⟨k + 1, by omega, by go_num, by rw [HC.out]; go_num⟩
      case measure => simp [intOf]; omega
    · have he : k = sz n := by omega
      have HE2 : Hid (cnt B k = (els B).length) := by rw [he]; exact HE.out
      clear he
      go_wp2
      go_ret
      exact ⟨by rw [HE2.out]; rfl, rfl⟩

/-- No number in common below 64k. -/
def Apart (B C : Nat → Bool) (k : Nat) : Prop := ∀ i, i < 64 * k → B i = true → C i = false

theorem bits_meet (B C : Nat → Bool) (k : Nat) : bits BinOp.and IntKind.u64 (wd B k : Int) (wd C k : Int) = (wd (fun i => B i && C i) k : Int) := by
  rw [bits_and_u64_nat _ _ (wd_lt _ _) (wd_lt _ _), wd_and]

theorem meet_step {B C : Nat → Bool} {k : Nat} (h : Apart B C k) (hz : wd (fun i => B i && C i) k = 0) : Apart B C (k + 1) := by
  intro i hi hb
  by_cases hlt : i < 64 * k
  · exact h i hlt hb
  · have := wd_zero.1 hz (i - 64 * k) (by omega)
    rw [show 64 * k + (i - 64 * k) = i from by omega] at this
    simpa [hb] using this

theorem meet_end {B C : Nat → Bool} {n : Nat} (hB : Upto B n) (h : Apart B C (sz n)) : meet B C = false :=
  meet_no fun i hb => by
    by_cases hi : i < n
    · exact h i (by unfold sz; omega) hb
    · rw [hB.2 i (by omega)] at hb; cases hb

theorem meet_found {B C : Nat → Bool} {n k : Nat} (hB : Upto B n) (hz : wd (fun i => B i && C i) k ≠ 0) : meet B C = true := by
  obtain ⟨j, _, hb⟩ := wd_ne hz
  simp only [Bool.and_eq_true] at hb
  exact meet_yes hB hb.1 hb.2

/-- The same below 64k. -/
def Alike (B C : Nat → Bool) (k : Nat) : Prop := ∀ i, i < 64 * k → B i = C i

theorem alike_step {B C : Nat → Bool} {k : Nat} (h : Alike B C k) (he : wd B k = wd C k) : Alike B C (k + 1) := by
  intro i hi
  by_cases hlt : i < 64 * k
  · exact h i hlt
  · have h1 := wd_bit B k (i - 64 * k)
    have h2 := wd_bit C k (i - 64 * k)
    have h3 : i - 64 * k < 64 := by omega
    rw [show 64 * k + (i - 64 * k) = i from by omega] at h1 h2
    rw [he, h2] at h1
    simpa [h3] using h1.symm

/-- Are both the same? -/
def same (B C : Nat → Bool) : Bool := els B == els C

theorem alike_end {B C : Nat → Bool} {n m k : Nat} (hB : Upto B n) (hC : Upto C m) (hk : max (sz n) (sz m) ≤ k) (h : Alike B C k) : same B C = true := by
  have : B = C := by
    funext i
    by_cases hi : i < 64 * k
    · exact h i hi
    · rw [hB.2 i (by unfold sz at hk; omega), hC.2 i (by unfold sz at hk; omega)]
  simp [same, this]

theorem alike_not {B C : Nat → Bool} {n m k : Nat} (hB : Upto B n) (hC : Upto C m) (h : wd B k ≠ wd C k) : same B C = false := by
  unfold same
  rw [beq_eq_false_iff_ne]
  intro he
  rw [els_eq hB hC] at he
  exact h (by rw [he])

/-- Nothing from i on in the words before k. -/
def Bare (B : Nat → Bool) (i k : Nat) : Prop := ∀ j, i ≤ j → j < 64 * k → B j = false

/-- What is struck out of word k where one looks from i on. -/
def below (i k : Nat) : Nat := if k = i / 64 then bitOf i - 1 else 0

theorem below_lt (i k : Nat) : below i k < 18446744073709551616 := by
  have := bitOf_lt i
  unfold below
  split <;> omega

theorem below_word (B : Nat → Bool) (i k : Nat) (h : i / 64 ≤ k) : bits BinOp.andNot IntKind.u64 (wd B k : Int) (below i k : Int) = (wd (from_ B i) k : Int) := by
  have hb := below_lt i k
  have h1 := wd_lt B k
  rw [u64_andNot _ _ (by omega) (by omega) (by omega) (by omega), Int.toNat_natCast, Int.toNat_natCast]
  congr 1
  unfold below
  split
  · rename_i e; rw [e]; exact below_first B i
  · rw [below_later B i k (by omega), Nat.sub_zero]
    apply Nat.eq_of_testBit_eq
    intro j
    rw [Nat.testBit_and, wd_bit, show 18446744073709551615 = 2 ^ 64 - 1 from rfl, Nat.testBit_two_pow_sub_one]
    by_cases hj : j < 64 <;> simp [hj]

theorem bare_step {B : Nat → Bool} {i k : Nat} (h : Bare B i k) (hz : wd (from_ B i) k = 0) : Bare B i (k + 1) := by
  intro j hij hj
  by_cases hlt : j < 64 * k
  · exact h j hij hlt
  · have := wd_zero.1 hz (j - 64 * k) (by omega)
    rw [show 64 * k + (j - 64 * k) = j from by omega] at this
    simpa [from_, hij] using this

theorem bare_found {B : Nat → Bool} {n i k : Nat} (hB : Upto B n) (h : Bare B i k) (hz : wd (from_ B i) k ≠ 0) :
    Lib.ctz 64 (wd (from_ B i) k) < 64 ∧ next B (i : Int) = ((k * 64 + Lib.ctz 64 (wd (from_ B i) k) : Nat) : Int) := by
  obtain ⟨hc, h1, h2⟩ := ctz_bit hz (wd_lt _ _)
  refine ⟨hc, ?_⟩
  generalize Lib.ctz 64 (wd (from_ B i) k) = c at *
  rw [wd_bit] at h1
  have e : k * 64 + c = 64 * k + c := by omega
  simp only [from_, Bool.and_eq_true, decide_eq_true_eq] at h1
  rw [e]
  refine next_yes hB _ (by omega) h1.2.1 fun j hij hj => ?_
  by_cases hlt : j < 64 * k
  · exact h j (by omega) hlt
  · have := h2 (j - 64 * k) (by omega)
    rw [wd_bit, show 64 * k + (j - 64 * k) = j from by omega] at this
    have h3 : j - 64 * k < 64 := by omega
    have h4 : i ≤ j := by omega
    simpa [from_, h3, h4] using this

theorem bare_end {B : Nat → Bool} {n i k : Nat} (hB : Upto B n) (hk : sz n ≤ k) (h : Bare B i k) : next B (i : Int) = -1 :=
  next_no _ fun j hij => by
    by_cases hlt : j < 64 * k
    · exact h j (by omega) hlt
    · exact hB.2 j (by unfold sz at hk; omega)

theorem wrap_below (i : Nat) : IntKind.u64.wrap ((bitOf i : Int) - 1) = (below i (i / 64) : Int) := by
  have := bitOf_lt i
  have := bitOf_pos i
  rw [IntKind.wrap_u64]
  simp only [below, if_true]
  omega

theorem below_next (i k : Nat) (h : i / 64 ≤ k) : below i (k + 1) = 0 := by
  unfold below
  rw [if_neg (by omega)]

set_option maxHeartbeats 1000000 in
theorem next_nat {v : Value} {n : Nat} {B : Nat → Bool} (w : World) (h : SetV v n B w) (hT : Tab w) (f : Int) (i : Nat) (hf : max f 0 = (i : Int)) (hi : i ≤ 9223372036854775807) :
    Calls Tryz.prog 64 #[v, .int .i64 f] w fun e w' => e = .returned (.int .i64 (next B (i : Int))) ∧ w = w' := by
  have HS := Lib.hid (size_any w h)
  have HW := Lib.hid (word_any w h)
  have HT := Lib.hid hT
  have HU := Lib.hid h.upto
  have HB := Lib.hid (bit_any i w hi)
  have hb : sz n ≤ 64 := sz_le h.upto.1
  have hw := wrap_below i
  clear h hT
  have HF := Lib.hid hf
  clear hf
  go_enter Tryz.func64, Tryz.ntmps64
  go_upto_region 1 with (fail)
  go_cut [1] (fun s1 wx => s1 = .int .i64 (i : Int) ∧ w = wx)
  case first =>
    by_cases hneg : f < 0
    · have HI := Lib.hid (show (i : Int) = 0 by have := HF.out; omega)
      go_wp2
      go_meet
      case rel => exact ⟨by rw [HI.out], rfl⟩
    · have HI := Lib.hid (show (i : Int) = f by have := HF.out; omega)
      go_wp2
      go_meet
      case rel => exact ⟨by rw [HI.out], rfl⟩
  case rest =>
    obtain ⟨rfl, rfl⟩ := hcut
    go_wp2_with (go_at_call 47; refine HB.out.mono ?_; rintro e w' ⟨rfl, rfl⟩)
    clear hw
    go_loop [5, 6] (fun b s => ∃ k : Nat, i / 64 ≤ k ∧ s = .int .i64 k ∧ b = .int .u64 (below i k) ∧ Bare B i k) (fun _ s => sz n - (intOf s).toNat)
    case atStart => exact ⟨i / 64, Nat.le_refl _, by rw [show ((i / 64 : Nat) : Int) = (i : Int) / 64 from by omega], rfl, fun j hij hj => by omega⟩
    case round =>
      obtain ⟨k, hk, rfl, rfl, ha⟩ := hrel
      have HA := Lib.hid ha
      clear ha
      by_cases hlt : k < sz n
      · have HE := below_word B i k hk
        by_cases hz : wd (from_ B i) k = 0
        · have HN := Lib.hid (bare_step HA.out hz)
          have HL := Lib.hid (below_next i k hk)
          rw [hz] at HE
          clear hz
          go_wp2_with (first | (go_at_call 80; refine HS.out.mono ?_; rintro e w' ⟨rfl, rfl⟩) | (go_at_call 82; refine (HW.out _).mono ?_; rintro e w' ⟨rfl, rfl⟩))
          go_round
          case rel => exact ⟨k + 1, by omega, by go_num, by rw [HL.out]; rfl, HN.out⟩
          case measure => simp [intOf]; omega
        · obtain ⟨hc, hn⟩ := bare_found HU.out HA.out hz
          have HN := Lib.hid hn
          have hne : ((wd (from_ B i) k : Int) != 0) = true := by rw [bne_iff_ne]; omega
          have HZ := Lib.hid (tz_any _ hz (wd_lt _ _) w HT.out)
          clear hz hn
          generalize Lib.ctz 64 (wd (from_ B i) k) = c at *
          generalize wd (from_ B i) k = z at *
          go_wp2_with (first | (go_at_call 80; refine HS.out.mono ?_; rintro e w' ⟨rfl, rfl⟩) | (go_at_call 82; refine (HW.out _).mono ?_; rintro e w' ⟨rfl, rfl⟩) | (go_at_call 83; refine HZ.out.mono ?_; rintro e w' ⟨rfl, rfl⟩))
          go_ret
          exact ⟨by rw [HN.out]; simp, rfl⟩
      · have HN := Lib.hid (bare_end HU.out (by omega) HA.out)
        go_wp2_with (go_at_call 80; refine HS.out.mono ?_; rintro e w' ⟨rfl, rfl⟩)
        go_ret
        exact ⟨by rw [HN.out]; rfl, rfl⟩

theorem next_any {v : Value} {n : Nat} {B : Nat → Bool} (w : World) (h : SetV v n B w) (hT : Tab w) (f : Int) (hf : f ≤ 9223372036854775807) :
    Calls Tryz.prog 64 #[v, .int .i64 f] w fun e w' => e = .returned (.int .i64 (next B f)) ∧ w = w' := by
  have e : max f 0 = ((max f 0).toNat : Int) := by omega
  have := next_nat w h hT f (max f 0).toNat e (by omega)
  rw [← e, next_max] at this
  exact this

end Go.Proofs.YtljblpekpmgmaaaGreatDoor.Bt
