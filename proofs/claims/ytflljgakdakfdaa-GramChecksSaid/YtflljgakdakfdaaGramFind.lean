/-
  Package gram: Find.
-/
import Derived.Test.YtflljgakdakfdaaGramName
namespace Go.Proofs.Ytflljgakdakfdaa.Gr
open Go.RowKit Go.Maps

/-- The name is none of the first k. -/
def Ahead (L : List ByteArray) (s : ByteArray) (k : Nat) : Prop := ∀ j (hj : j < L.length), j < k → L[j] ≠ s

theorem ahead_zero (L : List ByteArray) (s : ByteArray) : Ahead L s 0 := fun _ _ h => absurd h (by omega)
theorem ahead_step {L : List ByteArray} {s : ByteArray} {k : Nat} (h : Ahead L s k) (hk : k < L.length) (hn : L[k] ≠ s) : Ahead L s (k + 1) := fun j hj h1 => by
  by_cases e : j = k
  · subst e
    exact hn
  · exact h j hj (by omega)
theorem ahead_hit {L : List ByteArray} {s : ByteArray} {k : Nat} (h : Ahead L s k) (hk : k < L.length) (he : L[k] = s) : It.place L s = (k : Int) := by
  have hp := It.pl_at hk he (fun j hj => h j (by omega) hj)
  rw [It.place_in (by simp [It.isIn, hp])]
  simp [It.num, hp]
theorem ahead_end {L : List ByteArray} {s : ByteArray} {k : Nat} (h : Ahead L s k) (hk : ¬ k < L.length) : It.place L s = -1 := by
  refine It.place_out ?_
  cases hi : It.isIn L s with
  | false => rfl
  | true =>
    obtain ⟨h1, h2⟩ := It.num_lt hi
    exact absurd h2 (h _ h1 (by omega))
theorem bytes_ne {x s : ByteArray} (h : x ≠ s) : (x.toList == s.toList) = false := by
  rw [beq_eq_false_iff_ne, ByteArray.toList_eq, ByteArray.toList_eq]
  exact fun e => h (It.data_inj e)

set_option maxHeartbeats 1000000 in
theorem find_any (h : Sh) (G : Gram) (t : ByteArray) (w : World) (k : GAt h G w) :
    Calls Try.prog 21 #[gv h G, .string t] w (Is (.int .i64 (findI G t)) w) := by
  have T := Lib.hid (fun w1 (b : Below w.heap.size w w1) => top_any h G w1 (k.went b))
  have N := Lib.hid (fun s w1 (b : Below w.heap.size w w1) => name_any h G s w1 (k.went b))
  have X := Lib.hid (Bx.start h G w 25)
  have ht : top G ≤ 281474976710656 := by have := k.t1; have := k.t2; have := k.n1; have := k.n2; unfold top; omega
  clear k
  unfold gv
  go_enter Try.func21, Try.ntmps21
  go_wp2
  go_loopw [5] (fun i wr => ∃ j : Nat, j ≤ top G ∧ i = .int .i64 ((j : Int) + 1) ∧ Bx w h G wr ∧ Ahead (names G) t j) (fun i _ => (top G + 1) - (intOf i).toNat)
  case atStart => exact ⟨0, Nat.zero_le _, rfl, X.out, ahead_zero _ _⟩
  case round =>
    obtain ⟨j, hj, rfl, hX, hA⟩ := hrel
    have X := Lib.hid hX
    obtain ⟨x0, x1, x2, x3⟩ := hX.box
    have A := Lib.hid hA
    clear hA hX
    by_cases hlt : j < top G
    · have hl : j < (names G).length := by rw [names_length]; exact hlt
      have E := Lib.hid (name_in hlt)
      by_cases he : (names G)[j] = t
      · have HF := Lib.hid (ahead_hit A.out hl he)
        rw [he] at E
        clear he hl
        go_wp2_with (first
          | (go_at_call 12; refine (T.out _ X.out.below).mono ?_; rintro e w1 ⟨rfl, hb⟩; have X := Lib.hid (X.out.went hb); obtain ⟨x0, x1, x2, x3⟩ := X.out.box; clear hb)
          | (go_at_call 19; refine (N.out _ _ X.out.below).mono ?_; rw [E.out]; rintro e w1 ⟨rfl, hb⟩; have X := Lib.hid (X.out.went hb); clear hb))
        go_ret
        exact ⟨int_of (by unfold findI; rw [HF.out]), X.out.below⟩
      · have A2 := Lib.hid (ahead_step A.out hl he)
        have hne := bytes_ne he
        generalize (names G)[j] = x at E hne he
        clear he hl
        go_wp2_with (first
          | (go_at_call 12; refine (T.out _ X.out.below).mono ?_; rintro e w1 ⟨rfl, hb⟩; have X := Lib.hid (X.out.went hb); obtain ⟨x0, x1, x2, x3⟩ := X.out.box; clear hb)
          | (go_at_call 19; refine (N.out _ _ X.out.below).mono ?_; rw [E.out]; rintro e w1 ⟨rfl, hb⟩; have X := Lib.hid (X.out.went hb); clear hb))
        go_roundw
        case rel => exact ⟨j + 1, by omega, by go_num, X.out, A2.out⟩
        case measure => simp [intOf]; omega
    · have HF := Lib.hid (ahead_end A.out (by rw [names_length]; exact hlt))
      go_wp2_with (go_at_call 12; refine (T.out _ X.out.below).mono ?_; rintro e w1 ⟨rfl, hb⟩; have X := Lib.hid (X.out.went hb); clear hb)
      go_ret
      exact ⟨int_of (by unfold findI; rw [HF.out]; rfl), X.out.below⟩

end Go.Proofs.Ytflljgakdakfdaa.Gr
