/-
  Package intern: Text, New, add.
-/
import Derived.Test.YtbnfnkjjjpdncaaInternNames
namespace Go.Proofs.Ytbnfnkjjjpdncaa.It
open Go.RowKit Go.Maps

/-- What Text answers. -/
def textB (L : List ByteArray) (i : Int) : Bool := decide (0 ≤ i) && decide (i < (L.length : Int))
def textS (L : List ByteArray) (i : Int) : ByteArray := if textB L i then L.getD i.toNat ByteArray.empty else ByteArray.empty

theorem textS_out {L : List ByteArray} {i : Int} (h : textB L i = false) : textS L i = ByteArray.empty := by simp [textS, h]

set_option maxHeartbeats 1000000 in
theorem text_nil (i : Int) (w : World) : Calls Try.prog 14 #[.pointer none, .int .i64 i] w fun e w' => e = .returned (.tuple #[.string ⟨#[]⟩, .bool false]) ∧ w = w' := by
  by_cases h : i < 0
  · go_enter Try.func14, Try.ntmps14
    go_wp2
    go_ret2
    exact ⟨rfl, rfl⟩
  · have h0 : 0 ≤ i := by omega
    clear h
    go_enter Try.func14, Try.ntmps14
    go_wp2_with (go_at_call 11; refine (len_nil _).mono ?_; rintro e w' ⟨rfl, rfl⟩)
    go_ret2
    exact ⟨rfl, rfl⟩

set_option maxHeartbeats 1000000 in
theorem text_any {p : Nat} {S : Nat → Prop} {n : Nat} {L : List ByteArray} (w : World) (h : NmAt p S n L w) (i : Int) :
    Calls Try.prog 14 #[.pointer (some ⟨p, 0, none⟩), .int .i64 i] w fun e w' => e = .returned (.tuple #[.string (textS L i), .bool (textB L i)]) ∧ w = w' := by
  have HL := Lib.hid (len_any w h)
  by_cases h0 : 0 ≤ i
  · obtain ⟨j, rfl⟩ : ∃ j : Nat, i = (j : Int) := ⟨i.toNat, by omega⟩
    by_cases h1 : j < L.length
    · have e1 : textB L (j : Int) = true := by simp [textB, h1]
      have e2 : textS L (j : Int) = L[j] := by simp [textS, e1, h1]
      rw [e1, e2]
      obtain ⟨a, c, bm, D, h⟩ := h
      obtain ⟨b, o, rfl, hc⟩ := Sep.Reads.of_row h.row j (by simpa using h1)
      simp only [List.getElem_map] at hc
      have c1 := h.texts
      have hm : L.length ≤ 4096 := Nat.le_trans h.full h.top
      clear h e1 e2
      generalize L[j] = s at *
      generalize L.length = m at *
      go_enter Try.func14, Try.ntmps14
      go_wp2_with (go_at_call 11; refine HL.out.mono ?_; rintro e w' ⟨rfl, rfl⟩)
      go_ret2
      exact ⟨rfl, rfl⟩
    · have e1 : textB L (j : Int) = false := by simp [textB]; omega
      rw [textS_out e1, e1]
      clear h e1
      generalize L.length = m at *
      go_enter Try.func14, Try.ntmps14
      go_wp2_with (go_at_call 11; refine HL.out.mono ?_; rintro e w' ⟨rfl, rfl⟩)
      go_ret2
      exact ⟨rfl, rfl⟩
  · have e1 : textB L i = false := by simp [textB, h0]
    rw [textS_out e1, e1]
    have h2 : i < 0 := by omega
    clear h e1 h0
    go_enter Try.func14, Try.ntmps14
    go_wp2
    go_ret2
    exact ⟨rfl, rfl⟩

/-- A new collection's value, and that nothing that was there is written. -/
def Made (n : Nat) (w : World) (e : Ending) (w' : World) : Prop :=
  ∃ p S, e = .returned (.pointer (some ⟨p, 0, none⟩)) ∧ w.heap.size ≤ p ∧ (∀ k, S k → w.heap.size ≤ k) ∧ NmAt p S n [] w' ∧ Below w.heap.size w w'

theorem made (n : Nat) (hn : n ≤ 4096) (w : World) (w1 : World) (hw : w1 = (w.alloc (.map #[] 0)).alloc (.cells #[.int .i64 n, .slice none 0 0, .map (some w.heap.size)] 45)) :
    Made n w (.returned (.pointer (some ⟨w.heap.size + 1, 0, none⟩))) w1 := by
  subst hw
  refine ⟨w.heap.size + 1, fun k => k = w.heap.size ∨ k = w.heap.size + 1, rfl, by omega, fun k hk => by omega, ⟨none, 0, w.heap.size, .map [], ?_⟩, ((Below.refl _ _).alloc (Nat.le_refl _) _).alloc (by simp) _⟩
  refine ⟨by simp, by simp, by simp, by simp, World.ownsRow_nil _ _ _ _, (World.ownsMap_made w Try.prog 9 ReadI).alloc _, mapIs_nil, by omega, .inr rfl, .inl rfl, by simp [Value.ownBlock], fun k hk => by simp; omega, .nil, Nat.zero_le _, hn⟩

set_option maxHeartbeats 1000000 in
theorem new_any (n : Int) (w : World) :
    Calls Try.prog 7 #[.int .i64 n] w (Made (cap n) w) := by
  have hc := cap_le n
  have hmm := @run_makeMap Try.prog
  by_cases hneg : n < 0
  · have HI := Lib.hid (show (cap n : Int) = 0 by unfold cap; omega)
    have HM := Lib.hid (made (cap n) hc w)
    generalize cap n = c at *
    clear hc
    go_enter Try.func7, Try.ntmps7
    go_wp2
    go_ret
    exact HM.out _ (by rw [HI.out])
  · by_cases hbig : 4096 < n
    · have HI := Lib.hid (show (cap n : Int) = 4096 by unfold cap; omega)
      have HM := Lib.hid (made (cap n) hc w)
      generalize cap n = c at *
      clear hc
      go_enter Try.func7, Try.ntmps7
      go_wp2
      go_ret
      exact HM.out _ (by rw [HI.out])
    · have HI := Lib.hid (show (cap n : Int) = n by unfold cap; omega)
      have HM := Lib.hid (made (cap n) hc w)
      generalize cap n = c at *
      clear hc
      go_enter Try.func7, Try.ntmps7
      go_wp2
      go_ret
      exact HM.out _ (by rw [HI.out])

end Go.Proofs.Ytbnfnkjjjpdncaa.It
