/-
  The two functions of math/bits that package bits calls, and package bits' own function on one number.
-/
import Derived.Test.YtljblpekpmgmaaaGreatDoorProg
import Derived.Test.YtljblpekpmgmaaaGreatDoorBitsOnes
import Derived.WalkKit
import Derived.Below
import Derived.Lib.Hide
import Derived.IntWalk
import Derived.Deep.Light
import Derived.Shelf.Spec.TrailingZeros
namespace Go.Proofs.YtljblpekpmgmaaaGreatDoor.Bt
open Go.RowKit

theorem wrap_nat (n : Nat) : IntKind.u64.wrap (n : Int) = ((n % 18446744073709551616 : Nat) : Int) := by rw [IntKind.wrap_u64]; omega

theorem bitOf_wrap (i : Nat) : IntKind.u64.wrap (2 ^ (i % 64)) = (bitOf i : Int) := by
  have h := bitOf_lt i
  have e : ((2 : Int) ^ (i % 64)) = ((bitOf i : Nat) : Int) := by simp [bitOf]
  rw [e, wrap_nat, Nat.mod_eq_of_lt h]

set_option maxHeartbeats 1000000 in
theorem bit_any (i : Nat) (w : World) (hi : i ≤ 9223372036854775807) :
    Calls Tryz.prog 47 #[.int .i64 i] w fun e w' => e = .returned (.int .u64 (bitOf i)) ∧ w = w' := by
  go_enter Tryz.func47, Tryz.ntmps47
  go_wp2
  go_ret
  refine ⟨?_, rfl⟩
  simp [bitOf_wrap]

theorem i64_and_127 (y : Nat) (hy : y ≤ 9223372036854775807) : bits .and .i64 (y : Int) 127 = ((y % 128 : Nat) : Int) := by
  have h1 : (BitVec.ofInt 64 (y : Int)).toNat = y := by
    rw [BitVec.ofInt_natCast, BitVec.toNat_ofNat]; exact Nat.mod_eq_of_lt (by omega)
  have h2 : (BitVec.ofInt 64 (127 : Int)).toNat = 127 := rfl
  show IntKind.i64.wrap ((BitVec.ofInt 64 (y : Int) &&& BitVec.ofInt 64 (127 : Int)).toNat : Int) = _
  have e : y &&& 127 = y % 128 := Nat.and_two_pow_sub_one_eq_mod y 7
  rw [BitVec.toNat_and, h1, h2, e]
  exact IntWalk.i64_in _ (by omega)

theorem ones_steps (x : Nat) (hx : x < 18446744073709551616) : ∃ y1 y2 y3 y4 y5 y6 : Nat,
    IntKind.u64.wrap (bits BinOp.and IntKind.u64 ((x : Int) / 2) 6148914691236517205 + bits BinOp.and IntKind.u64 (x : Int) 6148914691236517205) = (y1 : Int) ∧
    IntKind.u64.wrap (bits BinOp.and IntKind.u64 ((y1 : Int) / 4) 3689348814741910323 + bits BinOp.and IntKind.u64 (y1 : Int) 3689348814741910323) = (y2 : Int) ∧
    bits BinOp.and IntKind.u64 (IntKind.u64.wrap ((y2 : Int) / 16 + (y2 : Int))) 1085102592571150095 = (y3 : Int) ∧
    IntKind.u64.wrap ((y3 : Int) + (y3 : Int) / 256) = (y4 : Int) ∧
    IntKind.u64.wrap ((y4 : Int) + (y4 : Int) / 65536) = (y5 : Int) ∧
    IntKind.u64.wrap ((y5 : Int) + (y5 : Int) / 4294967296) = (y6 : Int) ∧
    y6 ≤ 9223372036854775807 ∧
    bits .and .i64 (y6 : Int) 127 = (vs 1 64 x : Int) := by
  obtain ⟨h0, h6, h1, h2, h3, h3', h4, h5⟩ := ones x hx
  refine ⟨o1 x, o2 (o1 x), o3 (o2 (o1 x)), o4 256 (o3 (o2 (o1 x))), o4 65536 (o4 256 (o3 (o2 (o1 x)))), o4 4294967296 (o4 65536 (o4 256 (o3 (o2 (o1 x))))), ?_, ?_, ?_, ?_, ?_, ?_, by omega, ?_⟩
  · rw [show (x : Int) / 2 = ((x / 2 : Nat) : Int) from by omega, show (6148914691236517205 : Int) = ((6148914691236517205 : Nat) : Int) from rfl, bits_and_u64_nat _ _ (by omega) (by omega), bits_and_u64_nat _ _ hx (by omega), ← Int.natCast_add, wrap_nat]
    exact congrArg _ (Nat.mod_eq_of_lt h1)
  · generalize o1 x = y at *
    rw [show (y : Int) / 4 = ((y / 4 : Nat) : Int) from by omega, show (3689348814741910323 : Int) = ((3689348814741910323 : Nat) : Int) from rfl, bits_and_u64_nat _ _ (by omega) (by omega), bits_and_u64_nat _ _ h1 (by omega), ← Int.natCast_add, wrap_nat]
    exact congrArg _ (Nat.mod_eq_of_lt h2)
  · generalize o2 (o1 x) = y at *
    rw [show (y : Int) / 16 + (y : Int) = ((y / 16 + y : Nat) : Int) from by omega, wrap_nat, Nat.mod_eq_of_lt h3, show (1085102592571150095 : Int) = ((1085102592571150095 : Nat) : Int) from rfl, bits_and_u64_nat _ _ h3 (by omega)]
    rfl
  · generalize o3 (o2 (o1 x)) = y at *
    rw [show (y : Int) + (y : Int) / 256 = ((o4 256 y : Nat) : Int) from by unfold o4; omega, wrap_nat, Nat.mod_eq_of_lt (by omega)]
  · generalize o4 256 (o3 (o2 (o1 x))) = y at *
    rw [show (y : Int) + (y : Int) / 65536 = ((o4 65536 y : Nat) : Int) from by unfold o4; omega, wrap_nat, Nat.mod_eq_of_lt (by omega)]
  · generalize o4 65536 (o4 256 (o3 (o2 (o1 x)))) = y at *
    rw [show (y : Int) + (y : Int) / 4294967296 = ((o4 4294967296 y : Nat) : Int) from by unfold o4; omega, wrap_nat, Nat.mod_eq_of_lt (by omega)]
  · rw [i64_and_127 _ (by omega), h0]

set_option maxHeartbeats 1000000 in
theorem ones_any (x : Nat) (w : World) (hx : x < 18446744073709551616) :
    Calls Tryz.prog 81 #[.int .u64 x] w fun e w' => e = .returned (.int .i64 (vs 1 64 x)) ∧ w = w' := by
  obtain ⟨y1, y2, y3, y4, y5, y6, e1, e2, e3, e4, e5, e6, l6, e7⟩ := ones_steps x hx
  clear hx
  go_enter Tryz.func81, Tryz.ntmps81
  go_wp2
  go_ret
  exact ⟨rfl, rfl⟩

/-- The library's own table of numbers lies in its variable. -/
def Tab (w : World) : Prop := TabAt 0 Lib.deBruijn64tab w

set_option maxHeartbeats 1000000 in
theorem tz_core (x k idx : Nat) (w : World) (hx0 : ((x : Int) == 0) = false)
    (key : IntKind.u64.wrap (bits BinOp.and IntKind.u64 (x : Int) (IntKind.u64.wrap (-(x : Int))) * 285870213051353865) / 288230376151711744 = (idx : Int))
    (hi : idx < 64) (hk : k < 64) (hcell : w.cell? ⟨0, idx, none⟩ = some (.int .u8 k)) :
    Calls Tryz.prog 83 #[.int .u64 x] w fun e w' => e = .returned (.int .i64 k) ∧ w = w' := by
  go_enter Tryz.func83, Tryz.ntmps83
  go_wp2_with (simp only [key])
  go_ret
  exact ⟨rfl, rfl⟩

/-- TrailingZeros64, where some bit is set. -/
theorem tz_any (x : Nat) (hx0 : x ≠ 0) (hx : x < 18446744073709551616) (w : World) (hT : Tab w) :
    Calls Tryz.prog 83 #[.int .u64 x] w fun e w' => e = .returned (.int .i64 (Lib.ctz 64 x)) ∧ w = w' := by
  obtain ⟨hlow, hk⟩ := Lib.lowest_bit 64 x hx0 hx
  obtain ⟨hi, htab⟩ := Lib.deBruijn64_at _ hk
  have hcell := hT _ hi
  rw [htab] at hcell
  exact tz_core x _ _ w (by simp; omega) (tz64_key x _ hx hx0 hlow) hi hk hcell

end Go.Proofs.YtljblpekpmgmaaaGreatDoor.Bt
