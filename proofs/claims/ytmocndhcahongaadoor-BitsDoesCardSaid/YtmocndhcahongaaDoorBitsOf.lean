/-
  The statements' own function of: a set of the first numbers of a list.
-/
import Derived.Test.YtmocndhcahongaaDoorBitsNone
namespace Go.Proofs.YtmocndhcahongaaDoor.Bt
open Go.RowKit

/-- A list of numbers in memory. -/
def Given (ao : Option Addr) (len : Nat) (xs : Nat → Int) (w : World) : Prop :=
  ∀ i, i < len → ∃ b off, ao = some ⟨b, off, none⟩ ∧ w.cell? ⟨b, off + i, none⟩ = some (.int .i64 (xs i)) ∧ xs i ≤ 9223372036854775807

theorem Given.below {ao : Option Addr} {len : Nat} {xs : Nat → Int} {w w' : World} (h : Given ao len xs w) (hb : Below w.heap.size w w') : Given ao len xs w' := fun i hi => by
  obtain ⟨b, off, e, hc, hx⟩ := h i hi
  exact ⟨b, off, e, (hb.cell (p := ⟨b, off + i, none⟩) (lt_of_cell' hc)).trans hc, hx⟩

/-- The first k numbers of a list, as far as there is room. -/
def ofK (c : Nat) (xs : Nat → Int) : Nat → Nat → Bool
  | 0 => no
  | k + 1 => putI (ofK c xs k) c (xs k)

/-- How many are taken. -/
def few (len : Nat) : Nat := min len 60

/-- A set of one's own is made. -/
def OwnMade (c : Nat) (B : Nat → Bool) (w : World) (e : Ending) (w' : World) : Prop := ∃ p d, e = .returned (.pointer (some ⟨p, 0, none⟩)) ∧ Own w p d c B w'

set_option maxHeartbeats 2000000 in
theorem of_any (n : Int) (ao : Option Addr) (len cp : Nat) (xs : Nat → Int) (w : World) (hT : Tab w) (hg : Given ao len xs w) :
    Calls Tryd.prog 28 #[.int .i64 n, .slice ao len cp] w (OwnMade (cap n) (ofK (cap n) xs (few len)) w) := by
  have HT := Lib.hid hT
  have HG := Lib.hid hg
  have HN := Lib.hid (new_any n w)
  clear hT hg
  generalize cap n = c at *
  go_enter Tryd.func28, Tryd.ntmps28
  go_wp2_with (go_at_call 6; refine HN.out.mono ?_; rintro e w1 ⟨p, d, rfl, hp, hd, hs, hb, hh⟩; have HO : Hid (Own w p d c no w1) := Own.start HT.out hp hd hs hb; clear hp hd hs hb hh)
  go_loopw [6] (fun i wr => ∃ k : Nat, k ≤ few len ∧ i = .int .i64 k ∧ Own w p d c (ofK c xs k) wr) (fun i _ => 60 - (intOf i).toNat)
  case atStart => exact ⟨0, Nat.zero_le _, rfl, HO.out⟩
  case round =>
    obtain ⟨k, hk, rfl, ho⟩ := hrel
    have HO2 := Lib.hid ho
    clear ho HO
    by_cases hlt : k < len
    · by_cases h60 : k < 60
      · obtain ⟨b, off, rfl, hc, hx⟩ := (HG.out.below HO2.out.below) k hlt
        have HP := Lib.hid (put_any wr HO2.out.set (xs k) hx)
        go_wp2_with (go_at_call 8; refine HP.out.mono ?_; rintro e w' ⟨rfl, hs, hkp⟩; have HO3 := Lib.hid (HO2.out.wrote hs hkp); clear hs hkp)
        go_roundw
        case rel => exact ⟨k + 1, by unfold few; omega, by go_num, HO3.out⟩
        case measure => simp [intOf]; omega
      · have he : k = few len := by unfold few at *; omega
        subst he
        go_wp2
        go_ret
        exact ⟨p, d, rfl, HO2.out⟩
    · have he : k = few len := by unfold few at *; omega
      subst he
      go_wp2
      go_ret
      exact ⟨p, d, rfl, HO2.out⟩

end Go.Proofs.YtmocndhcahongaaDoor.Bt
