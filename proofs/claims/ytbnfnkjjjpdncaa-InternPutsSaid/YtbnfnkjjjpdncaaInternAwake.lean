/-
  The statements' own function awake, and the walk of the statement on no names.
-/
import Derived.Test.YtbnfnkjjjpdncaaInternPut
import Derived.Test.YtbnfnkjjjpdncaaInternAll
import Derived.Deep.RegionHeld3
namespace Go.Proofs.Ytbnfnkjjjpdncaa.It
open Go.RowKit Go.Maps

/-- True comes back; nothing that was there is written. -/
def Yes (w : World) (e : Ending) (w' : World) : Prop := e = .returned (.bool true) ∧ Below w.heap.size w w'

/-- A collection of one's own, behind a beginning. -/
structure Own (W : World) (p : Nat) (S : Nat → Prop) (n : Nat) (L : List ByteArray) (w : World) : Prop where
  own : ∀ k, S k → W.heap.size ≤ k
  at_ : NmAt p S n L w
  below : Below W.heap.size W w

theorem Own.wrote {W : World} {p : Nat} {S T : Nat → Prop} {n : Nat} {L L' : List ByteArray} {w w' : World} (h : Own W p S n L w) (ha : NmAt p T n L' w') (hf : Sep.Fr S w w') (hx : Sep.Ext T S w) : Own W p T n L' w' :=
  ⟨hx.from h.own h.below.size, ha, h.below.trans (hf.below h.own h.below.size)⟩
theorem Own.went {W : World} {p : Nat} {S : Nat → Prop} {n : Nat} {L : List ByteArray} {w w' : World} (h : Own W p S n L w) (hb : Below w.heap.size w w') : Own W p S n L w' :=
  ⟨h.own, h.at_.went hb, h.below.trans (hb.mono h.below.size)⟩

def sa : ByteArray := ⟨#[97]⟩
def sb : ByteArray := ⟨#[98]⟩
def sc : ByteArray := ⟨#[99]⟩

theorem put_a : putN 2 [] sa = 0 ∧ putE 2 [] sa = 0 ∧ putL 2 [] sa = [sa] := by decide +kernel
theorem put_b : putN 2 [sa] sb = 1 ∧ putE 2 [sa] sb = 0 ∧ putL 2 [sa] sb = [sa, sb] := by decide +kernel
theorem put_c : putN 2 [sa, sb] sc = 0 ∧ putE 2 [sa, sb] sc = 14 ∧ putL 2 [sa, sb] sc = [sa, sb] := by decide +kernel
theorem place_b : place [sa, sb] sb = 1 := by decide +kernel
theorem cap_2 : cap 2 = 2 := by decide
theorem small (x : UInt8) : (⟨#[x]⟩ : ByteArray).size ≤ maxLen := by simp [ByteArray.size, maxLen]

set_option maxHeartbeats 2000000 in
theorem awake_any (W : World) : Calls Try.prog 6 #[] W (Yes W) := by
  have HN := Lib.hid (new_any 2 W)
  rw [cap_2] at HN
  go_enter Try.func6, Try.ntmps6
  go_wp2_with fail
  refine HN.out.mono ?_
  rintro e w1 ⟨p, S, rfl, _, hS, hat, hb⟩
  have HO := Lib.hid (Own.mk hS hat hb)
  clear hS hat hb HN
  go_wp2_with fail
  have HP := Lib.hid (put_any w1 HO.out.at_ sa (small _))
  rw [put_a.1, put_a.2.1, put_a.2.2] at HP
  refine HP.out.mono ?_
  rintro e w2 ⟨rfl, T, hat, hf, hx⟩
  have HO2 := Lib.hid (HO.out.wrote hat hf hx)
  clear hat hf hx HO HP
  go_wp2_with fail
  have HP := Lib.hid (put_any w2 HO2.out.at_ sb (small _))
  rw [put_b.1, put_b.2.1, put_b.2.2] at HP
  refine HP.out.mono ?_
  rintro e w3 ⟨rfl, U, hat, hf, hx⟩
  have HO3 := Lib.hid (HO2.out.wrote hat hf hx)
  clear hat hf hx HO2 HP
  go_wp2_with fail
  have HP := Lib.hid (put_any w3 HO3.out.at_ sc (small _))
  rw [put_c.1, put_c.2.1, put_c.2.2] at HP
  refine HP.out.mono ?_
  rintro e w4 ⟨rfl, V, hat, hf, hx⟩
  have HO4 := Lib.hid (HO3.out.wrote hat hf hx)
  clear hat hf hx HO3 HP
  have HF := Lib.hid (find_any w4 HO4.out.at_ sb (small _))
  rw [place_b] at HF
  have HL := Lib.hid (len_any w4 HO4.out.at_)
  go_wp2_with (first | (go_at_call 12; refine HF.out.mono ?_; rintro e w' ⟨rfl, rfl⟩) | (go_at_call 11; refine HL.out.mono ?_; rintro e w' ⟨rfl, rfl⟩))
  go_ret
  exact ⟨rfl, HO4.out.below⟩

end Go.Proofs.Ytbnfnkjjjpdncaa.It
