/-
  A set of package bits in memory, and what its small functions tell of it: Room, size, word, allowed, fits, Has. A nil set is one with no room.
-/
import Derived.Test.YtljblpekpmgmaaaGreatDoorBitsLeaf
import Derived.Deep.QuietTactic
import Derived.BigQuiet
namespace Go.Proofs.YtljblpekpmgmaaaGreatDoor.Bt
open Go.RowKit

/-- How many words n numbers want. -/
def sz (n : Nat) : Nat := (n + 63) / 64

/-- A set at p, its words at d. -/
structure SetAt (p d n : Nat) (B : Nat → Bool) (w : World) : Prop where
  room : w.cell? ⟨p, 0, none⟩ = some (.int .i64 n)
  words : w.cell? ⟨p, 1, none⟩ = some (.slice (some ⟨d, 0, none⟩) (sz n) (sz n))
  holds : ∀ k, k < sz n → w.cell? ⟨d, k, none⟩ = some (.int .u64 (wd B k))
  free : ∀ k, k < sz n → w.frozen? ⟨d, k, none⟩ = false
  apart : p ≠ d
  inp : p < w.heap.size
  ind : d < w.heap.size
  upto : Upto B n

theorem SetAt.keep {p d n : Nat} {B : Nat → Bool} {w w' : World} (h : SetAt p d n B w) (hs : w.heap.size ≤ w'.heap.size) (hp : w'.heap[p]? = w.heap[p]?) (hd : w'.heap[d]? = w.heap[d]?) : SetAt p d n B w' :=
  ⟨(World.cell?_of_block (a := ⟨p, 0, none⟩) hp).trans h.room, (World.cell?_of_block (a := ⟨p, 1, none⟩) hp).trans h.words,
    fun k hk => (World.cell?_of_block (a := ⟨d, k, none⟩) hd).trans (h.holds k hk), fun k hk => (World.frozen?_of_block (a := ⟨d, k, none⟩) hd).trans (h.free k hk),
    h.apart, Nat.lt_of_lt_of_le h.inp hs, Nat.lt_of_lt_of_le h.ind hs, h.upto⟩

/-- A value that is a set, or nil. -/
inductive SetV : Value → Nat → (Nat → Bool) → World → Prop
  | nil (w : World) : SetV (.pointer none) 0 (fun _ => false) w
  | at_ {p d n : Nat} {B : Nat → Bool} {w : World} (h : SetAt p d n B w) : SetV (.pointer (some ⟨p, 0, none⟩)) n B w

theorem SetV.upto {v : Value} {n : Nat} {B : Nat → Bool} {w : World} (h : SetV v n B w) : Upto B n := by
  cases h with
  | nil => exact .none
  | at_ h => exact h.upto

theorem SetV.keep {v : Value} {n : Nat} {B : Nat → Bool} {w w' : World} (h : SetV v n B w) (hs : w'.heap = w.heap) : SetV v n B w' := by
  cases h with
  | nil => exact .nil _
  | at_ h => exact .at_ (h.keep (by rw [hs]; exact Nat.le_refl _) (by rw [hs]) (by rw [hs]))

theorem SetV.drew {v : Value} {n : Nat} {B : Nat → Bool} {w : World} (h : SetV v n B w) (m : Nat) : SetV v n B (w.drewN m) := h.keep (by rfl)

theorem sz_le {n : Nat} (h : n ≤ 4096) : sz n ≤ 64 := by unfold sz; omega

set_option maxHeartbeats 1000000 in
theorem room_any {v : Value} {n : Nat} {B : Nat → Bool} (w : World) (h : SetV v n B w) :
    Calls Tryz.prog 75 #[v] w fun e w' => e = .returned (.int .i64 n) ∧ w = w' := by
  cases h with
  | nil =>
    go_enter Tryz.func75, Tryz.ntmps75
    go_wp2
    go_ret
    exact ⟨rfl, rfl⟩
  | @at_ p d n B w h =>
    have h0 := h.room
    clear h
    go_enter Tryz.func75, Tryz.ntmps75
    go_wp2
    go_ret
    exact ⟨rfl, rfl⟩

set_option maxHeartbeats 1000000 in
theorem size_any {v : Value} {n : Nat} {B : Nat → Bool} (w : World) (h : SetV v n B w) :
    Calls Tryz.prog 80 #[v] w fun e w' => e = .returned (.int .i64 (sz n)) ∧ w = w' := by
  cases h with
  | nil =>
    go_enter Tryz.func80, Tryz.ntmps80
    go_wp2
    go_ret
    exact ⟨rfl, rfl⟩
  | @at_ p d n B w h =>
    have h0 := h.words
    clear h
    go_enter Tryz.func80, Tryz.ntmps80
    go_wp2
    go_ret
    exact ⟨rfl, rfl⟩

theorem wd_out {B : Nat → Bool} {n k : Nat} (h : Upto B n) (hk : ¬ k < sz n) : wd B k = 0 :=
  wd_zero.2 fun j _ => h.2 _ (by unfold sz at hk; omega)

set_option maxHeartbeats 1000000 in
theorem word_any {v : Value} {n : Nat} {B : Nat → Bool} (w : World) (h : SetV v n B w) (k : Nat) :
    Calls Tryz.prog 82 #[v, .int .i64 k] w fun e w' => e = .returned (.int .u64 (wd B k)) ∧ w = w' := by
  have hsz := size_any w h
  have HSZ := Lib.hid hsz
  clear hsz
  by_cases hlt : k < sz n
  · cases h with
    | nil => simp [sz] at hlt
    | @at_ p d n B w h =>
      have h0 := h.words
      have h1 := h.holds k hlt
      have hb : sz n ≤ 64 := sz_le h.upto.1
      clear h
      go_enter Tryz.func82, Tryz.ntmps82
      go_wp2_with (go_at_call 80; refine HSZ.out.mono ?_; rintro e w' ⟨rfl, rfl⟩)
      go_ret
      exact ⟨rfl, rfl⟩
  · have h0 := Lib.hid (wd_out h.upto hlt)
    clear h
    go_enter Tryz.func82, Tryz.ntmps82
    go_wp2_with (go_at_call 80; refine HSZ.out.mono ?_; rintro e w' ⟨rfl, rfl⟩)
    go_ret
    exact ⟨by rw [h0.out]; rfl, rfl⟩

/-- Is i within the room? -/
def fit (n : Nat) (i : Int) : Bool := decide (0 ≤ i) && decide (i < (n : Int))

set_option maxHeartbeats 1000000 in
theorem fits_any {v : Value} {n : Nat} {B : Nat → Bool} (w : World) (h : SetV v n B w) (i : Int) :
    Calls Tryz.prog 46 #[v, .int .i64 i] w fun e w' => e = .returned (.bool (fit n i)) ∧ w = w' := by
  have HR := Lib.hid (room_any w h)
  clear h
  by_cases h0 : 0 ≤ i
  · by_cases h1 : i < (n : Int)
    · have HF := Lib.hid (show fit n i = true by simp [fit, h0, h1])
      go_enter Tryz.func46, Tryz.ntmps46
      go_wp2_with (go_at_call 75; refine HR.out.mono ?_; rintro e w' ⟨rfl, rfl⟩)
      go_ret
      exact ⟨by rw [HF.out]; first | rfl | (simp; omega), rfl⟩
    · have HF := Lib.hid (show fit n i = false by simp [fit, h0, h1])
      go_enter Tryz.func46, Tryz.ntmps46
      go_wp2_with (go_at_call 75; refine HR.out.mono ?_; rintro e w' ⟨rfl, rfl⟩)
      go_ret
      exact ⟨by rw [HF.out]; first | rfl | (simp; omega), rfl⟩
  · have HF := Lib.hid (show fit n i = false by simp [fit, h0])
    go_enter Tryz.func46, Tryz.ntmps46
    go_wp2_with (go_at_call 75; refine HR.out.mono ?_; rintro e w' ⟨rfl, rfl⟩)
    go_ret
    exact ⟨by rw [HF.out]; rfl, rfl⟩

theorem flip {P : Program} {f : FuncId} {args : Array Value} {w : World} {v : Value} (h : Calls P f args w fun e w' => e = .returned v ∧ w = w') : Calls P f args w fun e w' => e = .returned v ∧ w' = w :=
  h.mono fun _ _ ⟨h1, h2⟩ => ⟨h1, h2.symm⟩

theorem fit_nat {n : Nat} {i : Int} (h : fit n i = true) : ∃ j : Nat, i = (j : Int) ∧ j < n := by
  simp only [fit, Bool.and_eq_true, decide_eq_true_eq] at h
  exact ⟨i.toNat, by omega, by omega⟩

theorem has_fit {n : Nat} {B : Nat → Bool} (hB : Upto B n) {i : Int} (h : fit n i = false) : has B i = false := by
  simp only [fit, Bool.and_eq_false_iff, decide_eq_false_iff_not] at h
  unfold has
  by_cases h0 : 0 ≤ i
  · rcases h with h | h
    · exact absurd h0 h
    · rw [hB.2 _ (by omega)]; simp
  · simp [h0]

theorem has_nat (B : Nat → Bool) (j : Nat) : has B (j : Int) = B j := by simp [has]

theorem bits_has (B : Nat → Bool) (j : Nat) : ∃ m : Nat, bits BinOp.and IntKind.u64 (wd B (j / 64) : Int) (bitOf j : Int) = (m : Int) ∧ ((m : Int) != 0) = B j := by
  refine ⟨_, bits_and_u64_nat _ _ (wd_lt _ _) (bitOf_lt _), ?_⟩
  have h := has_word B j
  cases hb : B j with
  | false =>
    rw [hb] at h
    have : wd B (j / 64) &&& bitOf j = 0 := by
      refine Classical.byContradiction fun hn => ?_
      exact absurd (h.1 hn) (by simp)
    rw [this]; rfl
  | true =>
    have := h.2 hb
    rw [bne_iff_ne]; omega

/-- An answer; what was drawn alone has changed. -/
def Draws (v : Value) (w : World) (e : Ending) (w' : World) : Prop := e = .returned v ∧ ∃ m, w' = w.drewN m

set_option maxHeartbeats 1000000 in
theorem has_any {v : Value} {n : Nat} {B : Nat → Bool} (w : World) (h : SetV v n B w) (i : Int) (hi : i ≤ 9223372036854775807) :
    Calls Tryz.prog 20 #[v, .int .i64 i] w (Draws (.bool (has B i)) w) := by
  have HF := Lib.hid (fun m => flip (fits_any (w.drewN m) (h.drew m) i))
  cases hf : fit n i with
  | false =>
    have HH := Lib.hid (has_fit h.upto hf)
    rw [hf] at HF
    clear h hf
    go_enter Tryz.func20, Tryz.ntmps20
    go_wp2_with fail
    go_quiet ((go_at_call 46; exact Calls.quiet_of_same (HF.out _)))
    go_wp2
    go_ret
    exact ⟨by rw [HH.out]; rfl, nq, rfl⟩
  | true =>
    obtain ⟨j, rfl, hj⟩ := fit_nat hf
    cases h with
    | nil => omega
    | @at_ p d n B w h =>
      rw [hf] at HF
      have h0 := h.words
      have hlt : j / 64 < sz n := by unfold sz; omega
      have h1 := h.holds (j / 64) hlt
      have hb : sz n ≤ 64 := sz_le h.upto.1
      have h2 := h.upto.1
      have HB := Lib.hid (fun m => flip (bit_any j (w.drewN m) (by omega)))
      obtain ⟨m, e1, e2⟩ := bits_has B j
      rw [has_nat, ← e2]
      clear h hf e2
      go_enter Tryz.func20, Tryz.ntmps20
      go_wp2_with fail
      go_quiet (first | (go_at_call 46; exact Calls.quiet_of_same (HF.out _)) | (go_at_call 47; exact Calls.quiet_of_same (HB.out _)))
      go_wp2
      go_ret
      exact ⟨rfl, nq, rfl⟩

end Go.Proofs.YtljblpekpmgmaaaGreatDoor.Bt
