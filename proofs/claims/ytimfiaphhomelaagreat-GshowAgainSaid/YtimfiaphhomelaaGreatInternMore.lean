/-
  Package intern: Text, New, add.
-/
import Derived.Test.YtimfiaphhomelaaGreatInternNames
namespace Go.Proofs.YtimfiaphhomelaaGreat.It
open Go.RowKit Go.Maps

/-- What Text answers. -/
def textB (L : List ByteArray) (i : Int) : Bool := decide (0 ≤ i) && decide (i < (L.length : Int))
def textS (L : List ByteArray) (i : Int) : ByteArray := if textB L i then L.getD i.toNat ByteArray.empty else ByteArray.empty

theorem textS_out {L : List ByteArray} {i : Int} (h : textB L i = false) : textS L i = ByteArray.empty := by simp [textS, h]

/-- A new collection's value, and that nothing that was there is written. -/
def Made (n : Nat) (w : World) (e : Ending) (w' : World) : Prop :=
  ∃ p S, e = .returned (.pointer (some ⟨p, 0, none⟩)) ∧ w.heap.size ≤ p ∧ (∀ k, S k → w.heap.size ≤ k) ∧ NmAt p S n [] w' ∧ Below w.heap.size w w'

theorem made (n : Nat) (hn : n ≤ 4096) (w : World) (w1 : World) (hw : w1 = (w.alloc (.map #[] 0)).alloc (.cells #[.int .i64 n, .slice none 0 0, .map (some w.heap.size)] 116)) :
    Made n w (.returned (.pointer (some ⟨w.heap.size + 1, 0, none⟩))) w1 := by
  subst hw
  refine ⟨w.heap.size + 1, fun k => k = w.heap.size ∨ k = w.heap.size + 1, rfl, by omega, fun k hk => by omega, ⟨none, 0, w.heap.size, .map [], ?_⟩, ((Below.refl _ _).alloc (Nat.le_refl _) _).alloc (by simp) _⟩
  refine ⟨by simp, by simp, by simp, by simp, World.ownsRow_nil _ _ _ _, (World.ownsMap_made w Tryz.prog 9 ReadI).alloc _, mapIs_nil, by omega, .inr rfl, .inl rfl, by simp [Value.ownBlock], fun k hk => by simp; omega, .nil, Nat.zero_le _, hn⟩

set_option maxHeartbeats 1000000 in
theorem new_any (n : Int) (w : World) :
    Calls Tryz.prog 52 #[.int .i64 n] w (Made (cap n) w) := by
  have hc := cap_le n
  have hmm := @run_makeMap Tryz.prog
  by_cases hneg : n < 0
  · have HI := Lib.hid (show (cap n : Int) = 0 by unfold cap; omega)
    have HM := Lib.hid (made (cap n) hc w)
    generalize cap n = c at *
    clear hc
    go_enter Tryz.func52, Tryz.ntmps52
    go_wp2
    go_ret
    exact HM.out _ (by rw [HI.out])
  · by_cases hbig : 4096 < n
    · have HI := Lib.hid (show (cap n : Int) = 4096 by unfold cap; omega)
      have HM := Lib.hid (made (cap n) hc w)
      generalize cap n = c at *
      clear hc
      go_enter Tryz.func52, Tryz.ntmps52
      go_wp2
      go_ret
      exact HM.out _ (by rw [HI.out])
    · have HI := Lib.hid (show (cap n : Int) = n by unfold cap; omega)
      have HM := Lib.hid (made (cap n) hc w)
      generalize cap n = c at *
      clear hc
      go_enter Tryz.func52, Tryz.ntmps52
      go_wp2
      go_ret
      exact HM.out _ (by rw [HI.out])

end Go.Proofs.YtimfiaphhomelaaGreat.It
