/-
  Or of package bits: what becomes of the set.
-/
import Derived.Test.YtmocndhcahongaaDoorBitsNew
namespace Go.Proofs.YtmocndhcahongaaDoor.Bt
open Go.RowKit

/-- Behind k words of Or. -/
def orK (B : Nat → Bool) (n : Nat) (C : Nat → Bool) (k : Nat) : Nat → Bool := fun j => B j || (C j && decide (j < n) && decide (j < 64 * k))
def gk (B : Nat → Bool) (n : Nat) (C : Nat → Bool) (k : Nat) : Bool := (List.range n).any fun i => decide (i < 64 * k) && (C i && !B i)
/-- What word k gains. -/
def more (B : Nat → Bool) (n : Nat) (C : Nat → Bool) : Nat → Bool := fun i => (C i && under n i) && !B i

theorem orK_zero (B C : Nat → Bool) (n : Nat) : orK B n C 0 = B := by funext j; simp [orK]
theorem gk_zero (B C : Nat → Bool) (n : Nat) : gk B n C 0 = false := by simp [gk]

theorem orK_word (B C : Nat → Bool) (n k : Nat) : wd (orK B n C k) k = wd B k :=
  wd_congr fun j _ => by
    have : ¬ 64 * k + j < 64 * k := by omega
    simp only [orK, this, decide_false, Bool.and_false, Bool.or_false]

theorem orK_other (B C : Nat → Bool) (n k i : Nat) (h : i ≠ k) : wd (orK B n C (k + 1)) i = wd (orK B n C k) i :=
  wd_congr fun j _ => by
    have : decide (64 * i + j < 64 * (k + 1)) = decide (64 * i + j < 64 * k) := by simp; omega
    simp only [orK, this]

theorem orK_step (B C : Nat → Bool) (n k : Nat) : wd B k ||| wd (more B n C) k = wd (orK B n C (k + 1)) k := by
  rw [wd_or]
  refine wd_congr fun j hj => ?_
  have : 64 * k + j < 64 * (k + 1) := by omega
  simp only [orK, more, under, this, decide_true, Bool.and_true]
  cases B (64 * k + j) <;> simp

theorem orK_same {B C : Nat → Bool} {n k : Nat} (h : wd (more B n C) k = 0) : orK B n C (k + 1) = orK B n C k := by
  funext i
  by_cases hi : 64 * k ≤ i ∧ i < 64 * (k + 1)
  · have hz := wd_zero.1 h (i - 64 * k) (by omega)
    rw [show 64 * k + (i - 64 * k) = i from by omega] at hz
    simp only [more, under] at hz
    simp only [orK]
    revert hz
    cases B i <;> cases C i <;> by_cases hn : i < n <;> simp [hn]
  · have : decide (i < 64 * (k + 1)) = decide (i < 64 * k) := by simp; omega
    simp only [orK, this]

theorem gk_same {B C : Nat → Bool} {n k : Nat} (h : wd (more B n C) k = 0) : gk B n C (k + 1) = gk B n C k := by
  unfold gk
  rw [Bool.eq_iff_iff, List.any_eq_true, List.any_eq_true]
  constructor
  · rintro ⟨i, hi, hb⟩
    refine ⟨i, hi, ?_⟩
    simp only [Bool.and_eq_true, decide_eq_true_eq] at hb ⊢
    refine ⟨?_, hb.2⟩
    refine Classical.byContradiction fun hn => ?_
    have hz := wd_zero.1 h (i - 64 * k) (by omega)
    rw [show 64 * k + (i - 64 * k) = i from by omega] at hz
    have := List.mem_range.1 hi
    simp [more, under, hb.2.1, this] at hz
    simp [hz] at hb
  · rintro ⟨i, hi, hb⟩
    refine ⟨i, hi, ?_⟩
    simp only [Bool.and_eq_true, decide_eq_true_eq] at hb ⊢
    exact ⟨by omega, hb.2⟩

theorem gk_more {B C : Nat → Bool} {n k : Nat} (h : wd (more B n C) k ≠ 0) : gk B n C (k + 1) = true := by
  obtain ⟨j, hj, hb⟩ := wd_ne h
  simp only [more, under, Bool.and_eq_true, decide_eq_true_eq] at hb
  unfold gk
  rw [List.any_eq_true]
  refine ⟨64 * k + j, List.mem_range.2 hb.1.2, ?_⟩
  simp only [Bool.and_eq_true, decide_eq_true_eq]
  exact ⟨by omega, hb.1.1, hb.2⟩

theorem orK_end (B C : Nat → Bool) (n : Nat) : orK B n C (sz n) = orr B n C := by
  funext i
  simp only [orK, orr]
  by_cases hi : i < n
  · have : i < 64 * sz n := by unfold sz; omega
    simp [hi, this]
  · simp [hi]

theorem gk_end (B C : Nat → Bool) (n : Nat) : gk B n C (sz n) = gains B n C := by
  unfold gk gains
  rw [Bool.eq_iff_iff, List.any_eq_true, List.any_eq_true]
  constructor
  · rintro ⟨i, hi, hb⟩
    simp only [Bool.and_eq_true, decide_eq_true_eq] at hb
    exact ⟨i, hi, by simpa using hb.2⟩
  · rintro ⟨i, hi, hb⟩
    have := List.mem_range.1 hi
    refine ⟨i, hi, ?_⟩
    simp only [Bool.and_eq_true, decide_eq_true_eq] at hb ⊢
    exact ⟨by unfold sz; omega, hb⟩

theorem orK_upto {B : Nat → Bool} {n : Nat} (h : Upto B n) (C : Nat → Bool) (k : Nat) : Upto (orK B n C k) n :=
  ⟨h.1, fun j hj => by
    have : ¬ j < n := by omega
    simp [orK, h.2 j hj, this]⟩

/-- A set, or nil, that lies apart from the block d. -/
inductive OtherV (d : Nat) : Value → Nat → (Nat → Bool) → World → Prop
  | nil (w : World) : OtherV d (.pointer none) 0 (fun _ => false) w
  | at_ {p2 d2 m : Nat} {C : Nat → Bool} {w : World} (h : SetAt p2 d2 m C w) (hp : p2 ≠ d) (hd : d2 ≠ d) : OtherV d (.pointer (some ⟨p2, 0, none⟩)) m C w

theorem OtherV.set {d : Nat} {u : Value} {m : Nat} {C : Nat → Bool} {w : World} (h : OtherV d u m C w) : SetV u m C w := by
  cases h with
  | nil => exact .nil _
  | at_ h _ _ => exact .at_ h

theorem OtherV.keeps {d : Nat} {u : Value} {m : Nat} {C : Nat → Bool} {w w' : World} (h : OtherV d u m C w) (k : Keeps d w w') : OtherV d u m C w' := by
  cases h with
  | nil => exact .nil _
  | at_ h hp hd => exact .at_ (h.keeps k hp hd) hp hd

theorem allowed_bits (n k : Nat) (h : 64 * k < n) : ∃ X : Nat, Op.shift BinOp.shl IntKind.u64 1 IntKind.u64 ((n : Int) - (k : Int) * 64) = pure (.int .u64 (X : Int)) ∧ IntKind.u64.wrap ((X : Int) - 1) = (wd (under n) k : Int) := by
  refine ⟨2 ^ (n - 64 * k) % 18446744073709551616, ?_, ?_⟩
  · rw [shift_shl_any _ _ _ _ (by omega), show ((n : Int) - (k : Int) * 64).toNat = n - 64 * k from by omega]
    congr 2
    rw [IntKind.wrap_u64, Int.one_mul]
    by_cases hb : n - 64 * k ≤ 64
    · rw [show min (n - 64 * k) IntKind.u64.bits = n - 64 * k from by simp [IntKind.bits]; omega]
      have e : ((2 : Int) ^ (n - 64 * k)) = ((2 ^ (n - 64 * k) : Nat) : Int) := by simp
      rw [e]; rfl
    · rw [show min (n - 64 * k) IntKind.u64.bits = 64 from by simp [IntKind.bits]; omega]
      have hd : 2 ^ (n - 64 * k) % 2 ^ 64 = 0 := Nat.mod_eq_zero_of_dvd (Nat.pow_dvd_pow 2 (by omega))
      have hd2 : 2 ^ (n - 64 * k) % 18446744073709551616 = 0 := hd
      rw [hd2]; rfl
  · rw [← under_word n k h]
    generalize 2 ^ (n - 64 * k) = p
    rw [IntKind.wrap_u64]
    omega

set_option maxHeartbeats 1000000 in
theorem allowed_any {p d n : Nat} {B : Nat → Bool} (w : World) (h : SetAt p d n B w) (k : Nat) (hk : k < sz n) :
    Calls Tryd.prog 35 #[.pointer (some ⟨p, 0, none⟩), .int .i64 k] w fun e w' => e = .returned (.int .u64 (wd (under n) k)) ∧ w = w' := by
  have h0 := h.room
  have hn := h.upto.1
  have hlt : 64 * k < n := by unfold sz at hk; omega
  have hs : sz n ≤ 64 := sz_le h.upto.1
  clear h
  obtain ⟨X, e1, e2⟩ := allowed_bits n k hlt
  go_enter Tryd.func35, Tryd.ntmps35
  go_wp2
  go_ret
  exact ⟨rfl, rfl⟩

set_option maxHeartbeats 1000000 in
theorem or_nil {u : Value} (w : World) :
    Calls Tryd.prog 12 #[.pointer none, u] w fun e w' => e = .returned (.bool false) ∧ w = w' := by
  have hS := size_any w (.nil w)
  rw [show sz 0 = 0 from rfl] at hS
  have HS := Lib.hid hS
  clear hS
  go_enter Tryd.func12, Tryd.ntmps12
  go_wp2_with (go_at_call 33; refine HS.out.mono ?_; rintro e w' ⟨rfl, rfl⟩)
  go_loop [5, 10] (fun c i => c = .bool false ∧ i = .int .i64 0) (fun _ _ => 0)
  case atStart => exact ⟨rfl, rfl⟩
  case round =>
    obtain ⟨rfl, rfl⟩ := hrel
    go_wp2
    go_ret
    exact ⟨rfl, rfl⟩

/-- The world of a round of Or. -/
def OrInv (p d n : Nat) (B : Nat → Bool) (u : Value) (m : Nat) (C : Nat → Bool) (w : World) (k : Nat) (wr : World) : Prop :=
  SetAt p d n (orK B n C k) wr ∧ OtherV d u m C wr ∧ Keeps d w wr

theorem bits_more (B C : Nat → Bool) (n k : Nat) : bits BinOp.andNot IntKind.u64 (bits BinOp.and IntKind.u64 (wd C k : Int) (wd (under n) k : Int)) (wd B k : Int) = (wd (more B n C) k : Int) := by
  have h1 := wd_lt B k
  rw [bits_and_u64_nat _ _ (wd_lt _ _) (wd_lt _ _)]
  have h2 : wd C k &&& wd (under n) k < 18446744073709551616 := Nat.lt_of_le_of_lt Nat.and_le_left (wd_lt C k)
  rw [u64_andNot _ _ (by omega) (by omega) (by omega) (by omega), Int.toNat_natCast, Int.toNat_natCast]
  exact congrArg _ (more_word B C n k)

theorem bits_join (B C : Nat → Bool) (n k : Nat) : bits BinOp.or IntKind.u64 (wd B k : Int) (wd (more B n C) k : Int) = (wd (orK B n C (k + 1)) k : Int) := by
  rw [bits_or_u64_nat _ _ (wd_lt _ _) (wd_lt _ _), orK_step]

set_option maxHeartbeats 2000000 in
theorem or_any {p d n m : Nat} {B C : Nat → Bool} {u : Value} (w : World) (h : SetAt p d n B w) (g : OtherV d u m C w) :
    Calls Tryd.prog 12 #[.pointer (some ⟨p, 0, none⟩), u] w (Wrote (gains B n C) p d n (orr B n C) w) := by
  have HS := Lib.hid (size_any w (.at_ h))
  have hs : sz n ≤ 64 := sz_le h.upto.1
  have HU0 := Lib.hid h.upto
  have H0 : Hid (OrInv p d n B u m C w 0 w) := ⟨by rw [orK_zero]; exact h, g, .refl _ _⟩
  clear h g
  go_enter Tryd.func12, Tryd.ntmps12
  go_wp2_with (go_at_call 33; refine HS.out.mono ?_; rintro e w' ⟨rfl, rfl⟩)
  go_loopw [5, 10] (fun c i wr => ∃ k : Nat, k ≤ sz n ∧ i = .int .i64 k ∧ c = .bool (gk B n C k) ∧ OrInv p d n B u m C w k wr) (fun _ i _ => sz n - (intOf i).toNat)
  case atStart => exact ⟨0, Nat.zero_le _, rfl, by rw [gk_zero], H0.out⟩
  case round =>
    obtain ⟨k, hk, rfl, rfl, hi⟩ := hrel
    have HI := Lib.hid hi
    clear hi
    by_cases hlt : k < sz n
    · have HW := Lib.hid (fun q => flip (word_any (wr.drewN q) (HI.out.2.1.set.drew q) k))
      have HA := Lib.hid (fun q => flip (allowed_any (wr.drewN q) (HI.out.1.drewN q) k hlt))
      have c0 := HI.out.1.words
      have c1 := HI.out.1.holds k hlt
      have c2 := HI.out.1.free k hlt
      rw [orK_word] at c1
      have hE := bits_more B C n k
      by_cases hz : wd (more B n C) k = 0
      · have H2 := Lib.hid (orK_same hz)
        have H3 := Lib.hid (gk_same hz)
        rw [hz] at hE
        clear hz
        go_wp2_with fail
        go_quiet (first | (go_at_call 34; exact Calls.quiet_of_same (HW.out _)) | (go_at_call 35; exact Calls.quiet_of_same (HA.out _)))
        go_wp2
        go_roundw
        case rel => exact ⟨k + 1, by omega, by go_num, by rw [H3.out], ⟨by rw [H2.out]; exact HI.out.1.drewN _, HI.out.2.1.keeps ((Keeps.refl _ _).drewN _), HI.out.2.2.drewN _⟩⟩
        case measure => simp [intOf]; omega
      · have H3 := Lib.hid (gk_more hz)
        have hne : ((wd (more B n C) k : Int) != 0) = true := by rw [bne_iff_ne]; omega
        have hJ := bits_join B C n k
        clear hz
        generalize wd (more B n C) k = z at *
        go_wp2_with fail
        go_quiet (first | (go_at_call 34; exact Calls.quiet_of_same (HW.out _)) | (go_at_call 35; exact Calls.quiet_of_same (HA.out _)))
        have HS2 := Lib.hid ((HI.out.1.drewN nq).store hlt (B' := orK B n C (k + 1)) (orK_upto HU0.out C (k + 1)) (fun i hi => orK_other B C n k i hi))
        have HK2 := Lib.hid ((Keeps.refl d wr).drewN nq |>.setCell k (.int .u64 (wd (orK B n C (k + 1)) k)))
        go_wp2
        go_roundw
        case rel => exact ⟨k + 1, by omega, by go_num, by rw [H3.out], ⟨HS2.out, HI.out.2.1.keeps HK2.out, HI.out.2.2.trans HK2.out⟩⟩
        case measure => simp [intOf]; omega
    · have he : k = sz n := by omega
      subst he
      have H2 := Lib.hid (orK_end B C n)
      have H3 := Lib.hid (gk_end B C n)
      go_wp2
      go_ret
      exact ⟨by rw [← H3.out]; rfl, by rw [← H2.out]; exact HI.out.1, HI.out.2.2⟩

end Go.Proofs.YtmocndhcahongaaDoor.Bt
