/-
  The document's plain sets, loops: Next, Meet, Or, List; and how two lists are held against each other.
-/
import Derived.Test.YtmocndhcahongaaDoorBitsRef
namespace Go.Proofs.YtmocndhcahongaaDoor.Bt
open Go.RowKit

/-! ### Next -/

set_option maxHeartbeats 1000000 in
theorem rnext_nat {p d n : Nat} {B : Nat → Bool} (w : World) (h : RefAt p d n B w) (f : Int) (i : Nat) (hf : max f 0 = (i : Int)) (hi : i ≤ 9223372036854775807) :
    Calls Tryd.prog 17 #[.pointer (some ⟨p, 0, none⟩), .int .i64 f] w fun e w' => e = .returned (.int .i64 (next B (i : Int))) ∧ w = w' := by
  have HR := Lib.hid (rroom_any w h)
  have h0 := h.flags
  have HA := Lib.hid h
  have hn := h.upto.1
  have HF := Lib.hid hf
  clear h hf
  go_enter Tryd.func17, Tryd.ntmps17
  go_upto_region 1 with (fail)
  go_cut [5] (fun s1 wx => s1 = .int .i64 (i : Int) ∧ w = wx)
  case first =>
    by_cases hneg : f < 0
    · have HI := Lib.hid (show (i : Int) = 0 by have := HF.out; omega)
      go_wp2
      go_meet
      case rel => exact ⟨by rw [HI.out], rfl⟩
    · have HI := Lib.hid (show (i : Int) = f by have := HF.out; omega)
      go_wp2
      go_meet
      case rel => exact ⟨by rw [HI.out], rfl⟩
  case rest =>
    obtain ⟨rfl, rfl⟩ := hcut
    go_wp2
    go_loop [5] (fun s => ∃ k : Nat, i ≤ k ∧ s = .int .i64 k ∧ (∀ j, i ≤ j → j < k → B j = false)) (fun s => n - (intOf s).toNat)
    case atStart => exact ⟨i, Nat.le_refl _, rfl, fun j h1 h2 => by omega⟩
    case round =>
      obtain ⟨k, hk, rfl, ha⟩ := hrel
      have HB := Lib.hid ha
      clear ha
      by_cases hlt : k < n
      · have c1 := HA.out.holds k hlt
        cases hb : B k with
        | true =>
          have HN := Lib.hid (next_yes HA.out.upto (i : Int) (by omega) hb (fun j h1 h2 => HB.out j (by omega) h2))
          rw [hb] at c1
          clear hb
          go_wp2_with (go_at_call 21; refine HR.out.mono ?_; rintro e w' ⟨rfl, rfl⟩)
          go_ret
          exact ⟨by rw [HN.out]; rfl, rfl⟩
        | false =>
          have HN := Lib.hid (show ∀ j, i ≤ j → j < k + 1 → B j = false from fun j h1 h2 => by
            by_cases e : j = k
            · rw [e]; exact hb
            · exact HB.out j h1 (by omega))
          rw [hb] at c1
          clear hb
          go_wp2_with (go_at_call 21; refine HR.out.mono ?_; rintro e w' ⟨rfl, rfl⟩)
          go_round
          case rel => exact ⟨k + 1, by omega, by go_num, HN.out⟩
          case measure => simp [intOf]; omega
      · have HN := Lib.hid (next_no (B := B) (i : Int) fun j hij => by
          by_cases hj : j < k
          · exact HB.out j (by omega) hj
          · exact HA.out.upto.2 j (by omega))
        go_wp2_with (go_at_call 21; refine HR.out.mono ?_; rintro e w' ⟨rfl, rfl⟩)
        go_ret
        exact ⟨by rw [HN.out]; rfl, rfl⟩

theorem rnext_any {p d n : Nat} {B : Nat → Bool} (w : World) (h : RefAt p d n B w) (f : Int) (hf : f ≤ 9223372036854775807) :
    Calls Tryd.prog 17 #[.pointer (some ⟨p, 0, none⟩), .int .i64 f] w fun e w' => e = .returned (.int .i64 (next B f)) ∧ w = w' := by
  have e : max f 0 = ((max f 0).toNat : Int) := by omega
  have := rnext_nat w h f (max f 0).toNat e (by omega)
  rw [← e, next_max] at this
  exact this

/-! ### Meet -/

set_option maxHeartbeats 1000000 in
theorem rmeet_any {p d n q e m : Nat} {B C : Nat → Bool} (w : World) (h : RefAt p d n B w) (g : RefAt q e m C w) :
    Calls Tryd.prog 19 #[.pointer (some ⟨p, 0, none⟩), .pointer (some ⟨q, 0, none⟩)] w fun e w' => e = .returned (.bool (meet B C)) ∧ w = w' := by
  have HR := Lib.hid (rroom_any w g)
  have HH := Lib.hid (fun i : Nat => rhas_any w h (i : Int))
  have h0 := g.flags
  have HG := Lib.hid g
  have hn := g.upto.1
  have HU := Lib.hid h.upto
  clear h g
  go_enter Tryd.func19, Tryd.ntmps19
  go_wp2
  go_loop [5] (fun s => ∃ k : Nat, k ≤ m ∧ s = .int .i64 k ∧ (∀ j, j < k → C j = true → B j = false)) (fun s => m - (intOf s).toNat)
  case atStart => exact ⟨0, Nat.zero_le _, rfl, fun j h1 => by omega⟩
  case round =>
    obtain ⟨k, hk, rfl, ha⟩ := hrel
    have HB := Lib.hid ha
    clear ha
    by_cases hlt : k < m
    · have c1 := HG.out.holds k hlt
      have HK := Lib.hid (HH.out k)
      rw [has_nat] at HK
      cases hc : C k with
      | true =>
        rw [hc] at c1
        cases hb : B k with
        | true =>
          have HN := Lib.hid (meet_yes HU.out hb hc)
          rw [hb] at HK
          clear hb hc
          go_wp2_with (first | (go_at_call 21; refine HR.out.mono ?_; rintro e w' ⟨rfl, rfl⟩) | (go_at_call 15; refine HK.out.mono ?_; rintro e w' ⟨rfl, rfl⟩))
          go_ret
          exact ⟨by rw [HN.out]; rfl, rfl⟩
        | false =>
          have HN := Lib.hid (show ∀ j, j < k + 1 → C j = true → B j = false from fun j h1 h2 => by
            by_cases e : j = k
            · rw [e]; exact hb
            · exact HB.out j (by omega) h2)
          rw [hb] at HK
          clear hb hc
          go_wp2_with (first | (go_at_call 21; refine HR.out.mono ?_; rintro e w' ⟨rfl, rfl⟩) | (go_at_call 15; refine HK.out.mono ?_; rintro e w' ⟨rfl, rfl⟩))
          go_round
          case rel => exact ⟨k + 1, by omega, by go_num, HN.out⟩
          case measure => simp [intOf]; omega
      | false =>
        rw [hc] at c1
        have HN := Lib.hid (show ∀ j, j < k + 1 → C j = true → B j = false from fun j h1 h2 => by
          by_cases e : j = k
          · rw [e, hc] at h2; cases h2
          · exact HB.out j (by omega) h2)
        clear hc
        go_wp2_with (go_at_call 21; refine HR.out.mono ?_; rintro e w' ⟨rfl, rfl⟩)
        go_round
        case rel => exact ⟨k + 1, by omega, by go_num, HN.out⟩
        case measure => simp [intOf]; omega
    · have HN := Lib.hid (meet_no (B := B) (C := C) fun i hb => by
        cases hc : C i with
        | false => rfl
        | true =>
          by_cases hi : i < m
          · rw [HB.out i (by omega) hc] at hb; cases hb
          · rw [HG.out.upto.2 i (by omega)] at hc; cases hc)
      go_wp2_with (go_at_call 21; refine HR.out.mono ?_; rintro e w' ⟨rfl, rfl⟩)
      go_ret
      exact ⟨by rw [HN.out]; rfl, rfl⟩

/-! ### Or -/

/-- Behind k numbers of Or. -/
def orN (B : Nat → Bool) (n : Nat) (C : Nat → Bool) (k : Nat) : Nat → Bool := fun j => B j || (C j && decide (j < n) && decide (j < k))
def gN (B : Nat → Bool) (n : Nat) (C : Nat → Bool) (k : Nat) : Bool := (List.range n).any fun i => decide (i < k) && (C i && !B i)

theorem orN_zero (B C : Nat → Bool) (n : Nat) : orN B n C 0 = B := by funext j; simp [orN]
theorem gN_zero (B C : Nat → Bool) (n : Nat) : gN B n C 0 = false := by simp [gN]
theorem orN_upto {B : Nat → Bool} {n : Nat} (h : Upto B n) (C : Nat → Bool) (k : Nat) : Upto (orN B n C k) n :=
  ⟨h.1, fun j hj => by
    have : ¬ j < n := by omega
    simp [orN, h.2 j hj, this]⟩

theorem orN_skip {B C : Nat → Bool} {n k : Nat} (h : C k = false) : orN B n C (k + 1) = orN B n C k := by
  funext i
  by_cases e : i = k
  · subst e; simp [orN, h]
  · have : decide (i < k + 1) = decide (i < k) := by simp; omega
    simp only [orN, this]

theorem orN_put {B C : Nat → Bool} {n k : Nat} (h : C k = true) : putI (orN B n C k) n (k : Int) = orN B n C (k + 1) := by
  have hk : orN B n C k k = B k := by simp [orN]
  by_cases hkn : k < n
  · rw [(putI_nat _ hkn).1]
    funext i
    by_cases e : i = k
    · subst e; simp [put, orN, h, hkn]
    · rw [put_else _ _ _ e]
      have : decide (i < k + 1) = decide (i < k) := by simp; omega
      simp only [orN, this]
  · unfold putI
    rw [if_neg (by omega)]
    funext i
    by_cases e : i = k
    · subst e; simp [orN, hkn]
    · have : decide (i < k + 1) = decide (i < k) := by simp; omega
      simp only [orN, this]

theorem orN_new {B C : Nat → Bool} {n k : Nat} : putR (orN B n C k) n (k : Int) = (decide (k < n) && !B k) := by
  have hk : orN B n C k k = B k := by simp [orN]
  simp [putR, hk]

theorem gN_skip {B C : Nat → Bool} {n k : Nat} (h : (C k && (decide (k < n) && !B k)) = false) : gN B n C (k + 1) = gN B n C k := by
  unfold gN
  rw [Bool.eq_iff_iff, List.any_eq_true, List.any_eq_true]
  constructor
  · rintro ⟨i, hi, hb⟩
    refine ⟨i, hi, ?_⟩
    simp only [Bool.and_eq_true, decide_eq_true_eq] at hb ⊢
    refine ⟨?_, hb.2⟩
    refine Classical.byContradiction fun hn => ?_
    have e : i = k := by omega
    subst e
    have hin := List.mem_range.1 hi
    simp [hb.2.1, hin] at h
    simp [h] at hb
  · rintro ⟨i, hi, hb⟩
    refine ⟨i, hi, ?_⟩
    simp only [Bool.and_eq_true, decide_eq_true_eq] at hb ⊢
    exact ⟨by omega, hb.2⟩

theorem gN_new {B C : Nat → Bool} {n k : Nat} (h : C k = true) (h2 : (decide (k < n) && !B k) = true) : gN B n C (k + 1) = true := by
  simp only [Bool.and_eq_true, decide_eq_true_eq] at h2
  unfold gN
  rw [List.any_eq_true]
  refine ⟨k, List.mem_range.2 h2.1, ?_⟩
  simp only [Bool.and_eq_true, decide_eq_true_eq]
  exact ⟨by omega, h, h2.2⟩

theorem orN_end {B C : Nat → Bool} {n m : Nat} (hC : Upto C m) : orN B n C m = orr B n C := by
  funext i
  simp only [orN, orr]
  by_cases hi : i < m
  · simp [hi]
  · simp [hC.2 i (by omega)]

theorem gN_end {B C : Nat → Bool} {n m : Nat} (hC : Upto C m) : gN B n C m = gains B n C := by
  unfold gN gains
  rw [Bool.eq_iff_iff, List.any_eq_true, List.any_eq_true]
  constructor
  · rintro ⟨i, hi, hb⟩
    simp only [Bool.and_eq_true, decide_eq_true_eq] at hb
    exact ⟨i, hi, by simpa using hb.2⟩
  · rintro ⟨i, hi, hb⟩
    refine ⟨i, hi, ?_⟩
    simp only [Bool.and_eq_true, decide_eq_true_eq] at hb ⊢
    refine ⟨?_, hb⟩
    refine Classical.byContradiction fun hn => ?_
    rw [hC.2 i (by omega)] at hb
    exact absurd hb.1 (by simp)

/-- The world of a round of the plain Or. -/
def ROrInv (p d n : Nat) (B : Nat → Bool) (q e m : Nat) (C : Nat → Bool) (w : World) (k : Nat) (wr : World) : Prop :=
  RefAt p d n (orN B n C k) wr ∧ RefAt q e m C wr ∧ Keeps d w wr

set_option maxHeartbeats 2000000 in
theorem ror_any {p d n q e m : Nat} {B C : Nat → Bool} (w : World) (h : RefAt p d n B w) (g : RefAt q e m C w) (hq : q ≠ d) (he : e ≠ d) :
    Calls Tryd.prog 13 #[.pointer (some ⟨p, 0, none⟩), .pointer (some ⟨q, 0, none⟩)] w (RWrote (gains B n C) p d n (orr B n C) w) := by
  have hm := g.upto.1
  have HC := Lib.hid g.upto
  have H0 : Hid (ROrInv p d n B q e m C w 0 w) := ⟨by rw [orN_zero]; exact h, g, .refl _ _⟩
  have HQ := Lib.hid (And.intro hq he)
  clear h g hq he
  go_enter Tryd.func13, Tryd.ntmps13
  go_wp2
  go_loopw [5, 6] (fun c s wr => ∃ k : Nat, k ≤ m ∧ s = .int .i64 k ∧ c = .bool (gN B n C k) ∧ ROrInv p d n B q e m C w k wr) (fun _ s _ => m - (intOf s).toNat)
  case atStart => exact ⟨0, Nat.zero_le _, rfl, by rw [gN_zero], H0.out⟩
  case round =>
    obtain ⟨k, hk, rfl, rfl, hi⟩ := hrel
    have HI := Lib.hid hi
    clear hi
    have HR := Lib.hid (rroom_any wr HI.out.2.1)
    by_cases hlt : k < m
    · have h0 := HI.out.2.1.flags
      have c1 := HI.out.2.1.holds k hlt
      cases hc : C k with
      | false =>
        rw [hc] at c1
        have H2 := Lib.hid (orN_skip (B := B) (n := n) hc)
        have H3 := Lib.hid (gN_skip (B := B) (n := n) (C := C) (k := k) (by rw [hc]; rfl))
        clear hc
        go_wp2_with (go_at_call 21; refine HR.out.mono ?_; rintro e w' ⟨rfl, rfl⟩)
        go_roundw
        case rel => exact ⟨k + 1, by omega, by go_num, by rw [H3.out], ⟨by rw [H2.out]; exact HI.out.1, HI.out.2.1, HI.out.2.2⟩⟩
        case measure => simp [intOf]; omega
      | true =>
        rw [hc] at c1
        have HP := Lib.hid (rput_any wr HI.out.1 (k : Int))
        rw [orN_put hc, orN_new] at HP
        cases hb : (decide (k < n) && !B k) with
        | true =>
          have H3 := Lib.hid (gN_new hc hb)
          rw [hb] at HP
          clear hc hb
          go_wp2_with (first | (go_at_call 21; refine HR.out.mono ?_; rintro e w' ⟨rfl, rfl⟩) | (go_at_call 9; refine HP.out.mono ?_; rintro e w2 ⟨rfl, hs, hkp⟩; have HS2 := Lib.hid hs; have HK2 := Lib.hid hkp; clear hs hkp))
          go_roundw
          case rel => exact ⟨k + 1, by omega, by go_num, by rw [H3.out], ⟨HS2.out, HI.out.2.1.keeps HK2.out HQ.out.1 HQ.out.2, HI.out.2.2.trans HK2.out⟩⟩
          case measure => simp [intOf]; omega
        | false =>
          have H3 := Lib.hid (gN_skip (B := B) (n := n) (C := C) (k := k) (by rw [hb]; simp))
          rw [hb] at HP
          clear hc hb
          go_wp2_with (first | (go_at_call 21; refine HR.out.mono ?_; rintro e w' ⟨rfl, rfl⟩) | (go_at_call 9; refine HP.out.mono ?_; rintro e w2 ⟨rfl, hs, hkp⟩; have HS2 := Lib.hid hs; have HK2 := Lib.hid hkp; clear hs hkp))
          go_roundw
          case rel => exact ⟨k + 1, by omega, by go_num, by rw [H3.out], ⟨HS2.out, HI.out.2.1.keeps HK2.out HQ.out.1 HQ.out.2, HI.out.2.2.trans HK2.out⟩⟩
          case measure => simp [intOf]; omega
    · have e : k = m := by omega
      subst e
      have H2 := Lib.hid (orN_end (B := B) (n := n) HC.out)
      have H3 := Lib.hid (gN_end (B := B) (n := n) HC.out)
      go_wp2_with (go_at_call 21; refine HR.out.mono ?_; rintro e w' ⟨rfl, rfl⟩)
      go_ret
      exact ⟨by rw [← H3.out]; rfl, by rw [← H2.out]; exact HI.out.1, HI.out.2.2⟩

/-! ### List -/

theorem pre_step {B : Nat → Bool} {k : Nat} : (B k = true → pre B (k + 1) = pre B k ++ [k]) ∧ (B k = false → pre B (k + 1) = pre B k) := by
  constructor <;> intro h <;> simp [pre, List.range_succ, h]

theorem pre_room {B : Nat → Bool} {n : Nat} (h : Upto B n) : pre B n = els B := (els_at h).symm

def RListInv (B : Nat → Bool) (w : World) (k : Nat) (v : Value) (wr : World) : Prop :=
  wr.ownsRow w.heap.size 3 1 v (pre B k).length ((pre B k).map iv) ∧ Below w.heap.size w wr

set_option maxHeartbeats 2000000 in
theorem rlist_any {p d n : Nat} {B : Nat → Bool} (w : World) (h : RefAt p d n B w) :
    Calls Tryd.prog 24 #[.pointer (some ⟨p, 0, none⟩)] w (Listed B w) := by
  obtain ⟨i0, hi, hz0, hz1, hz2⟩ := info_parts info_int
  have HA := Lib.hid h
  have hn := h.upto.1
  clear h
  go_enter Tryd.func24, Tryd.ntmps24
  go_wp2
  go_loopw [3, 4] (fun v s wr => ∃ k : Nat, k ≤ n ∧ s = .int .i64 k ∧ RListInv B w k v wr) (fun _ s _ => n - (intOf s).toNat)
  case atStart => exact ⟨0, Nat.zero_le _, rfl, World.ownsRow_nil _ _ _ _, .refl _ _⟩
  case round =>
    obtain ⟨k, hk, rfl, hinv⟩ := hrel
    have HI := Lib.hid hinv
    clear hinv
    have HA2 := Lib.hid (HA.out.below HI.out.2 HA.out.inp HA.out.ind)
    have HR := Lib.hid (rroom_any wr HA2.out)
    have hp := pre_len B k
    by_cases hlt : k < n
    · have h0 := HA2.out.flags
      have c1 := HA2.out.holds k hlt
      cases hb : B k with
      | false =>
        have HE := Lib.hid (pre_step.2 hb)
        rw [hb] at c1
        clear hb
        go_wp2_with (go_at_call 21; refine HR.out.mono ?_; rintro e w' ⟨rfl, rfl⟩)
        go_roundw
        case rel => exact ⟨k + 1, by omega, by go_num, by unfold RListInv; rw [HE.out]; exact HI.out⟩
        case measure => simp [intOf]; omega
      | true =>
        have HE := Lib.hid (pre_step.1 hb)
        rw [hb] at c1
        clear hb
        go_wp2_with (first | (go_at_call 21; refine HR.out.mono ?_; rintro e w' ⟨rfl, rfl⟩) | (at_builtin; refine wpList_append_own _ rfl _ _ 35 rfl w.heap.size 3 i0 (.int .i64 0) 1 8 Tryd.underlying35 hi hz0 hz1 hz2 rfl (by decide) _ _ _ rfl (HI.out.1.alloc _) ⟨wr.heap.size, 0, none⟩ 1 1 [iv k] rfl rfl ?c1 ?c2 ?c3 ?c4 ?c5 ?_))
        case c1 =>
          intro j u hj
          match j, hj with
          | 0, hj => simp at hj; subst hj; simp [Addr.add, iv]
        case c2 => intro u hu; simp at hu; subst hu; rfl
        case c3 => unfold maxLen; omega
        case c4 => omega
        case c5 => have := HI.out.2.size; simp; omega
        intro v' w2 hown' hgrow _
        have HI2 : Hid (RListInv B w (k + 1) v' w2) := ⟨by rw [HE.out]; simpa using hown', (HI.out.2.alloc HI.out.2.size _).grown hgrow (by have := HI.out.2.size; simp; omega) (fun q hq => (HI.out.1.lt q hq).1)⟩
        clear hown' hgrow
        go_wp2
        go_roundw
        case rel => exact ⟨k + 1, by omega, by go_num, HI2.out⟩
        case measure => simp [intOf]; omega
    · have e : k = n := by omega
      subst e
      have HE := Lib.hid (pre_room HA.out.upto)
      go_wp2_with (go_at_call 21; refine HR.out.mono ?_; rintro e w' ⟨rfl, rfl⟩)
      go_ret
      exact ⟨_, rfl, by rw [← HE.out]; exact HI.out.1, HI.out.2⟩

end Go.Proofs.YtmocndhcahongaaDoor.Bt
