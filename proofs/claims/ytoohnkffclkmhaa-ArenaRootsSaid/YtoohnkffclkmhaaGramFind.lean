/-
  Package gram: Find.
-/
import Derived.Test.YtoohnkffclkmhaaGramName
namespace Go.Proofs.Ytoohnkffclkmhaa.Gr
open Go.RowKit Go.Maps

/-- The name is none of the first k. -/
def Ahead (L : List ByteArray) (s : ByteArray) (k : Nat) : Prop := ∀ j (hj : j < L.length), j < k → L[j] ≠ s

theorem ahead_zero (L : List ByteArray) (s : ByteArray) : Ahead L s 0 := fun _ _ h => absurd h (by omega)
theorem ahead_step {L : List ByteArray} {s : ByteArray} {k : Nat} (h : Ahead L s k) (hk : k < L.length) (hn : L[k] ≠ s) : Ahead L s (k + 1) := fun j hj h1 => by
  by_cases e : j = k
  · subst e
    exact hn
  · exact h j hj (by omega)
theorem ahead_hit {L : List ByteArray} {s : ByteArray} {k : Nat} (h : Ahead L s k) (hk : k < L.length) (he : L[k] = s) : It.place L s = (k : Int) := by
  have hp := It.pl_at hk he (fun j hj => h j (by omega) hj)
  rw [It.place_in (by simp [It.isIn, hp])]
  simp [It.num, hp]
theorem ahead_end {L : List ByteArray} {s : ByteArray} {k : Nat} (h : Ahead L s k) (hk : ¬ k < L.length) : It.place L s = -1 := by
  refine It.place_out ?_
  cases hi : It.isIn L s with
  | false => rfl
  | true =>
    obtain ⟨h1, h2⟩ := It.num_lt hi
    exact absurd h2 (h _ h1 (by omega))
theorem bytes_ne {x s : ByteArray} (h : x ≠ s) : (x.toList == s.toList) = false := by
  rw [beq_eq_false_iff_ne, ByteArray.toList_eq, ByteArray.toList_eq]
  exact fun e => h (It.data_inj e)

end Go.Proofs.Ytoohnkffclkmhaa.Gr
