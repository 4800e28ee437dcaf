/-
  The document's plain answers of layer 4: Place, Same.
-/
import Derived.Test.YtbnfnkjjjpdncaaInternAll
import Derived.LoopTactic
namespace Go.Proofs.Ytbnfnkjjjpdncaa.It
open Go.RowKit Go.Maps

/-- The name is none of the first k. -/
def Ahead (L : List ByteArray) (s : ByteArray) (k : Nat) : Prop := ∀ j (hj : j < L.length), j < k → L[j] ≠ s

theorem ahead_step {L : List ByteArray} {s : ByteArray} {k : Nat} (h : Ahead L s k) (hk : k < L.length) (hn : L[k] ≠ s) : Ahead L s (k + 1) := fun j hj h1 => by
  by_cases e : j = k
  · subst e
    exact hn
  · exact h j hj (by omega)

theorem ahead_hit {L : List ByteArray} {s : ByteArray} {k : Nat} (h : Ahead L s k) (hk : k < L.length) (he : L[k] = s) : place L s = (k : Int) := by
  have hp := pl_at hk he (fun j hj => h j (by omega) hj)
  rw [place_in (by simp [isIn, hp])]
  simp [num, hp]

theorem ahead_end {L : List ByteArray} {s : ByteArray} {k : Nat} (h : Ahead L s k) (hk : ¬ k < L.length) : place L s = -1 := by
  refine place_out ?_
  cases hi : isIn L s with
  | false => rfl
  | true =>
    obtain ⟨h1, h2⟩ := num_lt hi
    exact absurd h2 (h _ h1 (by omega))

theorem bytes_ne {x s : ByteArray} (h : x ≠ s) : (x.toList == s.toList) = false := by
  rw [beq_eq_false_iff_ne, ByteArray.toList_eq, ByteArray.toList_eq]
  exact fun e => h (data_inj e)

set_option maxHeartbeats 1000000 in
theorem place_any (L : List ByteArray) (s : ByteArray) (a : Option Addr) (c : Nat) (w : World) (h : Sep.Reads a (L.map .string) w) (hl : L.length ≤ 4096) :
    Calls Try.prog 13 #[.slice a L.length c, .string s] w fun e w' => e = .returned (.int .i64 (place L s)) ∧ w = w' := by
  have HR := Lib.hid h
  clear h
  go_enter Try.func13, Try.ntmps13
  go_wp2
  go_loop [5] (fun i => ∃ k : Nat, k ≤ L.length ∧ i = .int .i64 k ∧ Ahead L s k) (fun i => L.length - (intOf i).toNat)
  case atStart => exact ⟨0, Nat.zero_le _, rfl, fun _ _ h => absurd h (by omega)⟩
  case round =>
    obtain ⟨k, hk, rfl, hb⟩ := hrel
    have HB := Lib.hid hb
    clear hb
    by_cases hlt : k < L.length
    · obtain ⟨b, o, rfl, hc⟩ := HR.out k (by simpa using hlt)
      simp only [List.getElem_map] at hc
      by_cases he : L[k] = s
      · rw [he] at hc
        have HP := Lib.hid (ahead_hit HB.out hlt he)
        clear he
        go_wp2
        go_ret
        exact ⟨by rw [HP.out]; rfl, rfl⟩
      · have HN := Lib.hid (ahead_step HB.out hlt he)
        have hne := bytes_ne he
        clear he
        go_wp2
        go_round
        case rel => exact ⟨k + 1, by omega, by go_num, HN.out⟩
        case measure => simp [intOf]; omega
    · have HE := Lib.hid (ahead_end HB.out hlt)
      go_wp2
      go_ret
      exact ⟨by rw [HE.out]; rfl, rfl⟩

set_option maxHeartbeats 1000000 in
theorem same_any (L : List ByteArray) (a b : Option Addr) (c d : Nat) (w : World) (ha : Sep.Reads a (L.map .string) w) (hb : Sep.Reads b (L.map .string) w) (hl : L.length ≤ 4096) :
    Calls Try.prog 15 #[.slice a L.length c, .slice b L.length d] w fun e w' => e = .returned (.bool true) ∧ Below w.heap.size w w' := by
  have HA := Lib.hid ha
  have HB := Lib.hid hb
  clear ha hb
  go_enter Try.func15, Try.ntmps15
  go_wp2
  go_loopw [5] (fun i wr => ∃ k : Nat, k ≤ L.length ∧ i = .int .i64 k ∧ Below w.heap.size w wr) (fun i _ => L.length - (intOf i).toNat)
  case atStart => exact ⟨0, Nat.zero_le _, rfl, .refl _ _⟩
  case round =>
    obtain ⟨k, hk, rfl, hW⟩ := hrel
    by_cases hlt : k < L.length
    · obtain ⟨b1, o1, rfl, h1⟩ := HA.out k (by simpa using hlt)
      obtain ⟨b2, o2, rfl, h2⟩ := HB.out k (by simpa using hlt)
      simp only [List.getElem_map] at h1 h2
      have k1 := cell_later hW h1
      have k2 := cell_later hW h2
      have HW := Lib.hid hW
      clear h1 h2 hW
      generalize L[k] = x at k1 k2
      go_wp2
      go_quiet (fail)
      go_wp2
      go_roundw
      case rel => exact ⟨k + 1, by omega, by go_num, HW.out.trans ⟨rfl, rfl, rfl, Nat.le_refl _, fun _ _ => rfl⟩⟩
      case measure => simp [intOf]; omega
    · have HW := Lib.hid hW
      go_wp2
      go_ret
      exact ⟨rfl, HW.out⟩

end Go.Proofs.Ytbnfnkjjjpdncaa.It
