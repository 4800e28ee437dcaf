/-
  List of package bits: the numbers in order, in a block of its own.
  math/bits.OnesCount64's steps, as numbers: what they come to is the sum of the 64 bits. Of no program.
  The two functions of math/bits that package bits calls, and package bits' own function on one number.
  A set of package bits in memory, and what its small functions tell of it: Room, size, word, allowed, fits, Has. A nil set is one with no room.
  What package bits' loops over words tell of a set: Count, Meet, Same, Next. A nil set is one with no room.
  New of package bits, and Put, Drop: what becomes of the set.
  Or of package bits: what becomes of the set.
  Or of package bits with the set itself: nothing changes.
-/
import Derived.Test.YtoipinnfmjaaaaaGreatDoorBitsPlain
import Derived.Test.YtoipinnfmjaaaaaGreatDoorProg
import Derived.WalkKit
import Derived.Below
import Derived.Lib.Hide
import Derived.IntWalk
import Derived.Deep.Light
import Derived.Shelf.Spec.TrailingZeros
import Derived.Deep.QuietTactic
import Derived.BigQuiet
import Derived.Deep.DeepCutAuto
import Derived.StillTailTactics
import Derived.Deep.OwnRows
import Derived.Deep.Heap
import Derived.Deep.LoopGhost
namespace Go.Proofs.YtoipinnfmjaaaaaGreatDoor.Bt

/-- Eight digits to base 256. -/
def d8 (a b c d e f g h : Nat) : Nat := a + 256 * (b + 256 * (c + 256 * (d + 256 * (e + 256 * (f + 256 * (g + 256 * h))))))

/-- The first step. -/
def o1 (x : Nat) : Nat := (x / 2 &&& 6148914691236517205) + (x &&& 6148914691236517205)
/-- The second. -/
def o2 (x : Nat) : Nat := (x / 4 &&& 3689348814741910323) + (x &&& 3689348814741910323)
/-- The third. -/
def o3 (x : Nat) : Nat := (x / 16 + x) &&& 1085102592571150095
/-- A sum of a number and its upper part. -/
def o4 (s x : Nat) : Nat := x + x / s

theorem o1_eq (x : Nat) : o1 x = hv 1 32 x := rfl
theorem o2_eq (x : Nat) : o2 x = hv 2 16 x := rfl

/-- K digits to base 2^w, each at most m, and nothing else. -/
def digs (w m : Nat) : Nat → Nat → Prop
  | 0, x => x = 0
  | K + 1, x => x % 2 ^ w ≤ m ∧ digs w m K (x / 2 ^ w)

theorem digs_any : ∀ (K x : Nat), x < 2 ^ K → digs 1 1 K x
  | 0, x, h => by simp at h; exact h
  | K + 1, x, h => by
    refine ⟨by simp; omega, digs_any K _ ?_⟩
    rw [Nat.pow_succ] at h
    simp; omega

theorem digs_low {w m : Nat} : ∀ {K x : Nat}, digs w m K x → x % 2 ^ w ≤ m
  | 0, x, h => by have : x = 0 := h; subst this; simp
  | _ + 1, _, h => h.1

/-- A halving's digits. -/
theorem digs_hv (w m : Nat) (hw : 0 < w) : ∀ (K x : Nat), digs w m (K + K) x → digs (w + w) (m + m) K (hv w K x)
  | 0, x, h => by simp [hv, msk, digs]
  | K + 1, x, h => by
    rw [show K + 1 + (K + 1) = K + K + 1 + 1 from by omega] at h
    obtain ⟨h1, h2, h3⟩ := h
    rw [Nat.div_div_eq_div_mul, ← Nat.pow_add] at h3
    have hp : 2 ^ w * 2 ^ w = 2 ^ (w + w) := by rw [Nat.pow_add]
    have g1 : 2 ≤ 2 ^ w := by
      have := Nat.pow_le_pow_right (n := 2) (by decide) (show 1 ≤ w from hw)
      simpa using this
    have g2 : 2 * 2 ^ w ≤ 2 ^ w * 2 ^ w := Nat.mul_le_mul_right _ g1
    have m1 := Nat.mod_lt (x / 2 ^ w) (show 2 ^ w > 0 by omega)
    have m2 := Nat.mod_lt x (show 2 ^ w > 0 by omega)
    have hlt : x / 2 ^ w % 2 ^ w + x % 2 ^ w < 2 ^ (w + w) := by omega
    rw [hv_succ]
    refine ⟨?_, ?_⟩
    · rw [Nat.mul_comm, Nat.mul_add_mod, Nat.mod_eq_of_lt hlt]; omega
    · rw [Nat.mul_comm, Nat.mul_add_div (by omega), Nat.div_eq_of_lt hlt, Nat.add_zero]
      exact digs_hv w m hw K _ h3

/-- The third step is a halving, too, where no sum passes 15. -/
theorem sum_and : ∀ (K x : Nat), digs 4 4 (K + K) x → (x / 16 + x) &&& msk 4 K = hv 4 K x
  | 0, x, _ => by simp [msk, hv]
  | K + 1, x, h => by
    rw [show K + 1 + (K + 1) = K + K + 1 + 1 from by omega] at h
    obtain ⟨h1, h2, h3⟩ := h
    have e3 : x / 2 ^ 4 / 2 ^ 4 = x / 256 := by rw [Nat.div_div_eq_div_mul]
    rw [e3] at h3
    have ih := sum_and K _ h3
    have h4 := digs_low h3
    rw [hv_succ, msk_and]
    simp only [Nat.reducePow, Nat.reduceAdd] at *
    have q : (x / 16 + x) / 256 = x / 256 / 16 + x / 256 := by omega
    have r : (x / 16 + x) % 16 = x / 16 % 16 + x % 16 := by omega
    rw [q, r, ih]

theorem eight (x : Nat) (h : digs 8 8 8 x) : ∃ a b c d e f g k, x = d8 a b c d e f g k ∧ a ≤ 8 ∧ b ≤ 8 ∧ c ≤ 8 ∧ d ≤ 8 ∧ e ≤ 8 ∧ f ≤ 8 ∧ g ≤ 8 ∧ k ≤ 8 ∧ vs 8 8 x = a + b + c + d + e + f + g + k := by
  obtain ⟨h0, h1, h2, h3, h4, h5, h6, h7, h8⟩ := h
  refine ⟨_, _, _, _, _, _, _, _, ?_, h0, h1, h2, h3, h4, h5, h6, h7, ?_⟩
  · simp only [digs, Nat.reducePow] at *
    unfold d8
    omega
  · simp only [vs, Nat.add_zero, Nat.add_assoc]

theorem d8_div (a b c d e f g h : Nat) (ha : a < 256) : d8 a b c d e f g h / 256 = d8 b c d e f g h 0 := by
  unfold d8; omega
theorem d8_div2 (a b c d e f g h : Nat) (ha : a < 256) (hb : b < 256) : d8 a b c d e f g h / 65536 = d8 c d e f g h 0 0 := by
  unfold d8; omega
theorem d8_div4 (a b c d e f g h : Nat) (ha : a < 256) (hb : b < 256) (hc : c < 256) (hd : d < 256) : d8 a b c d e f g h / 4294967296 = d8 e f g h 0 0 0 0 := by
  unfold d8; omega
theorem d8_add (a b c d e f g h a' b' c' d' e' f' g' h' : Nat) : d8 a b c d e f g h + d8 a' b' c' d' e' f' g' h' = d8 (a + a') (b + b') (c + c') (d + d') (e + e') (f + f') (g + g') (h + h') := by
  unfold d8; omega
theorem d8_mod (a b c d e f g h : Nat) (ha : a < 128) : d8 a b c d e f g h % 128 = a := by
  unfold d8; omega
theorem d8_lt (a b c d e f g h : Nat) (ha : a < 256) (hb : b < 256) (hc : c < 256) (hd : d < 256) (he : e < 256) (hf : f < 256) (hg : g < 256) (hh : h < 128) : d8 a b c d e f g h < 9223372036854775808 := by
  unfold d8; omega

/-- All of it. -/
theorem ones (x : Nat) (hx : x < 18446744073709551616) :
    o4 4294967296 (o4 65536 (o4 256 (o3 (o2 (o1 x))))) % 128 = vs 1 64 x ∧ o4 4294967296 (o4 65536 (o4 256 (o3 (o2 (o1 x))))) < 9223372036854775808 ∧
    o1 x < 18446744073709551616 ∧ o2 (o1 x) < 18446744073709551616 ∧ o2 (o1 x) / 16 + o2 (o1 x) < 18446744073709551616 ∧ o3 (o2 (o1 x)) < 9223372036854775808 ∧
    o4 256 (o3 (o2 (o1 x))) < 9223372036854775808 ∧ o4 65536 (o4 256 (o3 (o2 (o1 x)))) < 9223372036854775808 := by
  have a0 := digs_any 64 x hx
  have a1 := digs_hv 1 1 (by decide) 32 x a0
  have a2 := digs_hv 2 2 (by decide) 16 _ a1
  have a3 := digs_hv 4 4 (by decide) 8 _ a2
  have e3 : o3 (o2 (o1 x)) = hv 4 8 (hv 2 16 (hv 1 32 x)) := sum_and 8 _ a2
  have v1 := vs_hv 1 (by decide) 32 x
  have v2 := vs_hv 2 (by decide) 16 (hv 1 32 x)
  have v3 := vs_hv 4 (by decide) 8 (hv 2 16 (hv 1 32 x))
  have hb : ∀ y m, y &&& m ≤ m := fun y m => Nat.and_le_right
  have b1 : o1 x < 18446744073709551616 := by
    have := hb (x / 2) 6148914691236517205
    have := hb x 6148914691236517205
    unfold o1; omega
  have b2 : o2 (o1 x) ≤ 7378697629483820646 := by
    have := hb (o1 x / 4) 3689348814741910323
    have := hb (o1 x) 3689348814741910323
    unfold o2; omega
  obtain ⟨a, b, c, d, e, f, g, k, hy, ha, hb', hc, hd, he, hf, hg, hk, hs⟩ := eight _ a3
  rw [e3, hy]
  have s1 : o4 256 (d8 a b c d e f g k) = d8 (a + b) (b + c) (c + d) (d + e) (e + f) (f + g) (g + k) k := by
    unfold o4; rw [d8_div _ _ _ _ _ _ _ _ (by omega), d8_add, Nat.add_zero]
  rw [s1]
  have s2 : o4 65536 (d8 (a + b) (b + c) (c + d) (d + e) (e + f) (f + g) (g + k) k) = d8 (a + b + (c + d)) (b + c + (d + e)) (c + d + (e + f)) (d + e + (f + g)) (e + f + (g + k)) (f + g + k) (g + k) k := by
    unfold o4; rw [d8_div2 _ _ _ _ _ _ _ _ (by omega) (by omega), d8_add, Nat.add_zero, Nat.add_zero]
  rw [s2]
  have s3 : o4 4294967296 (d8 (a + b + (c + d)) (b + c + (d + e)) (c + d + (e + f)) (d + e + (f + g)) (e + f + (g + k)) (f + g + k) (g + k) k) = d8 (a + b + (c + d) + (e + f + (g + k))) (b + c + (d + e) + (f + g + k)) (c + d + (e + f) + (g + k)) (d + e + (f + g) + k) (e + f + (g + k)) (f + g + k) (g + k) k := by
    unfold o4; rw [d8_div4 _ _ _ _ _ _ _ _ (by omega) (by omega) (by omega) (by omega), d8_add, Nat.add_zero, Nat.add_zero, Nat.add_zero, Nat.add_zero]
  rw [s3]
  refine ⟨?_, d8_lt _ _ _ _ _ _ _ _ (by omega) (by omega) (by omega) (by omega) (by omega) (by omega) (by omega) (by omega), b1, by omega, by omega, d8_lt _ _ _ _ _ _ _ _ (by omega) (by omega) (by omega) (by omega) (by omega) (by omega) (by omega) (by omega), d8_lt _ _ _ _ _ _ _ _ (by omega) (by omega) (by omega) (by omega) (by omega) (by omega) (by omega) (by omega), d8_lt _ _ _ _ _ _ _ _ (by omega) (by omega) (by omega) (by omega) (by omega) (by omega) (by omega) (by omega)⟩
  rw [d8_mod _ _ _ _ _ _ _ _ (by omega)]
  have : vs 8 8 (hv 4 8 (hv 2 16 (hv 1 32 x))) = vs 1 64 x := v3.trans (v2.trans v1)
  omega

end Go.Proofs.YtoipinnfmjaaaaaGreatDoor.Bt

namespace Go.Proofs.YtoipinnfmjaaaaaGreatDoor.Bt
open Go.RowKit

theorem wrap_nat (n : Nat) : IntKind.u64.wrap (n : Int) = ((n % 18446744073709551616 : Nat) : Int) := by rw [IntKind.wrap_u64]; omega

theorem bitOf_wrap (i : Nat) : IntKind.u64.wrap (2 ^ (i % 64)) = (bitOf i : Int) := by
  have h := bitOf_lt i
  have e : ((2 : Int) ^ (i % 64)) = ((bitOf i : Nat) : Int) := by simp [bitOf]
  rw [e, wrap_nat, Nat.mod_eq_of_lt h]

set_option maxHeartbeats 1000000 in
theorem bit_any (i : Nat) (w : World) (hi : i ≤ 9223372036854775807) :
    Calls Tryz.prog 58 #[.int .i64 i] w fun e w' => e = .returned (.int .u64 (bitOf i)) ∧ w = w' := by
  go_enter Tryz.func58, Tryz.ntmps58
  go_wp2
  go_ret
  refine ⟨?_, rfl⟩
  simp [bitOf_wrap]

theorem i64_and_127 (y : Nat) (hy : y ≤ 9223372036854775807) : bits .and .i64 (y : Int) 127 = ((y % 128 : Nat) : Int) := by
  have h1 : (BitVec.ofInt 64 (y : Int)).toNat = y := by
    rw [BitVec.ofInt_natCast, BitVec.toNat_ofNat]; exact Nat.mod_eq_of_lt (by omega)
  have h2 : (BitVec.ofInt 64 (127 : Int)).toNat = 127 := rfl
  show IntKind.i64.wrap ((BitVec.ofInt 64 (y : Int) &&& BitVec.ofInt 64 (127 : Int)).toNat : Int) = _
  have e : y &&& 127 = y % 128 := Nat.and_two_pow_sub_one_eq_mod y 7
  rw [BitVec.toNat_and, h1, h2, e]
  exact IntWalk.i64_in _ (by omega)

theorem ones_steps (x : Nat) (hx : x < 18446744073709551616) : ∃ y1 y2 y3 y4 y5 y6 : Nat,
    IntKind.u64.wrap (bits BinOp.and IntKind.u64 ((x : Int) / 2) 6148914691236517205 + bits BinOp.and IntKind.u64 (x : Int) 6148914691236517205) = (y1 : Int) ∧
    IntKind.u64.wrap (bits BinOp.and IntKind.u64 ((y1 : Int) / 4) 3689348814741910323 + bits BinOp.and IntKind.u64 (y1 : Int) 3689348814741910323) = (y2 : Int) ∧
    bits BinOp.and IntKind.u64 (IntKind.u64.wrap ((y2 : Int) / 16 + (y2 : Int))) 1085102592571150095 = (y3 : Int) ∧
    IntKind.u64.wrap ((y3 : Int) + (y3 : Int) / 256) = (y4 : Int) ∧
    IntKind.u64.wrap ((y4 : Int) + (y4 : Int) / 65536) = (y5 : Int) ∧
    IntKind.u64.wrap ((y5 : Int) + (y5 : Int) / 4294967296) = (y6 : Int) ∧
    y6 ≤ 9223372036854775807 ∧
    bits .and .i64 (y6 : Int) 127 = (vs 1 64 x : Int) := by
  obtain ⟨h0, h6, h1, h2, h3, h3', h4, h5⟩ := ones x hx
  refine ⟨o1 x, o2 (o1 x), o3 (o2 (o1 x)), o4 256 (o3 (o2 (o1 x))), o4 65536 (o4 256 (o3 (o2 (o1 x)))), o4 4294967296 (o4 65536 (o4 256 (o3 (o2 (o1 x))))), ?_, ?_, ?_, ?_, ?_, ?_, by omega, ?_⟩
  · rw [show (x : Int) / 2 = ((x / 2 : Nat) : Int) from by omega, show (6148914691236517205 : Int) = ((6148914691236517205 : Nat) : Int) from rfl, bits_and_u64_nat _ _ (by omega) (by omega), bits_and_u64_nat _ _ hx (by omega), ← Int.natCast_add, wrap_nat]
    exact congrArg _ (Nat.mod_eq_of_lt h1)
  · generalize o1 x = y at *
    rw [show (y : Int) / 4 = ((y / 4 : Nat) : Int) from by omega, show (3689348814741910323 : Int) = ((3689348814741910323 : Nat) : Int) from rfl, bits_and_u64_nat _ _ (by omega) (by omega), bits_and_u64_nat _ _ h1 (by omega), ← Int.natCast_add, wrap_nat]
    exact congrArg _ (Nat.mod_eq_of_lt h2)
  · generalize o2 (o1 x) = y at *
    rw [show (y : Int) / 16 + (y : Int) = ((y / 16 + y : Nat) : Int) from by omega, wrap_nat, Nat.mod_eq_of_lt h3, show (1085102592571150095 : Int) = ((1085102592571150095 : Nat) : Int) from rfl, bits_and_u64_nat _ _ h3 (by omega)]
    rfl
  · generalize o3 (o2 (o1 x)) = y at *
    rw [show (y : Int) + (y : Int) / 256 = ((o4 256 y : Nat) : Int) from by unfold o4; omega, wrap_nat, Nat.mod_eq_of_lt (by omega)]
  · generalize o4 256 (o3 (o2 (o1 x))) = y at *
    rw [show (y : Int) + (y : Int) / 65536 = ((o4 65536 y : Nat) : Int) from by unfold o4; omega, wrap_nat, Nat.mod_eq_of_lt (by omega)]
  · generalize o4 65536 (o4 256 (o3 (o2 (o1 x)))) = y at *
    rw [show (y : Int) + (y : Int) / 4294967296 = ((o4 4294967296 y : Nat) : Int) from by unfold o4; omega, wrap_nat, Nat.mod_eq_of_lt (by omega)]
  · rw [i64_and_127 _ (by omega), h0]

set_option maxHeartbeats 1000000 in
theorem ones_any (x : Nat) (w : World) (hx : x < 18446744073709551616) :
    Calls Tryz.prog 80 #[.int .u64 x] w fun e w' => e = .returned (.int .i64 (vs 1 64 x)) ∧ w = w' := by
  obtain ⟨y1, y2, y3, y4, y5, y6, e1, e2, e3, e4, e5, e6, l6, e7⟩ := ones_steps x hx
  clear hx
  go_enter Tryz.func80, Tryz.ntmps80
  go_wp2
  go_ret
  exact ⟨rfl, rfl⟩

/-- The library's own table of numbers lies in its variable. -/
def Tab (w : World) : Prop := TabAt 0 Lib.deBruijn64tab w

set_option maxHeartbeats 1000000 in
theorem tz_core (x k idx : Nat) (w : World) (hx0 : ((x : Int) == 0) = false)
    (key : IntKind.u64.wrap (bits BinOp.and IntKind.u64 (x : Int) (IntKind.u64.wrap (-(x : Int))) * 285870213051353865) / 288230376151711744 = (idx : Int))
    (hi : idx < 64) (hk : k < 64) (hcell : w.cell? ⟨0, idx, none⟩ = some (.int .u8 k)) :
    Calls Tryz.prog 81 #[.int .u64 x] w fun e w' => e = .returned (.int .i64 k) ∧ w = w' := by
  go_enter Tryz.func81, Tryz.ntmps81
  go_wp2_with (simp only [key])
  go_ret
  exact ⟨rfl, rfl⟩

/-- TrailingZeros64, where some bit is set. -/
theorem tz_any (x : Nat) (hx0 : x ≠ 0) (hx : x < 18446744073709551616) (w : World) (hT : Tab w) :
    Calls Tryz.prog 81 #[.int .u64 x] w fun e w' => e = .returned (.int .i64 (Lib.ctz 64 x)) ∧ w = w' := by
  obtain ⟨hlow, hk⟩ := Lib.lowest_bit 64 x hx0 hx
  obtain ⟨hi, htab⟩ := Lib.deBruijn64_at _ hk
  have hcell := hT _ hi
  rw [htab] at hcell
  exact tz_core x _ _ w (by simp; omega) (tz64_key x _ hx hx0 hlow) hi hk hcell

end Go.Proofs.YtoipinnfmjaaaaaGreatDoor.Bt

namespace Go.Proofs.YtoipinnfmjaaaaaGreatDoor.Bt
open Go.RowKit

/-- How many words n numbers want. -/
def sz (n : Nat) : Nat := (n + 63) / 64

/-- A set at p, its words at d. -/
structure SetAt (p d n : Nat) (B : Nat → Bool) (w : World) : Prop where
  room : w.cell? ⟨p, 0, none⟩ = some (.int .i64 n)
  words : w.cell? ⟨p, 1, none⟩ = some (.slice (some ⟨d, 0, none⟩) (sz n) (sz n))
  holds : ∀ k, k < sz n → w.cell? ⟨d, k, none⟩ = some (.int .u64 (wd B k))
  free : ∀ k, k < sz n → w.frozen? ⟨d, k, none⟩ = false
  apart : p ≠ d
  inp : p < w.heap.size
  ind : d < w.heap.size
  upto : Upto B n

theorem SetAt.keep {p d n : Nat} {B : Nat → Bool} {w w' : World} (h : SetAt p d n B w) (hs : w.heap.size ≤ w'.heap.size) (hp : w'.heap[p]? = w.heap[p]?) (hd : w'.heap[d]? = w.heap[d]?) : SetAt p d n B w' :=
  ⟨(World.cell?_of_block (a := ⟨p, 0, none⟩) hp).trans h.room, (World.cell?_of_block (a := ⟨p, 1, none⟩) hp).trans h.words,
    fun k hk => (World.cell?_of_block (a := ⟨d, k, none⟩) hd).trans (h.holds k hk), fun k hk => (World.frozen?_of_block (a := ⟨d, k, none⟩) hd).trans (h.free k hk),
    h.apart, Nat.lt_of_lt_of_le h.inp hs, Nat.lt_of_lt_of_le h.ind hs, h.upto⟩

/-- A value that is a set, or nil. -/
inductive SetV : Value → Nat → (Nat → Bool) → World → Prop
  | nil (w : World) : SetV (.pointer none) 0 (fun _ => false) w
  | at_ {p d n : Nat} {B : Nat → Bool} {w : World} (h : SetAt p d n B w) : SetV (.pointer (some ⟨p, 0, none⟩)) n B w

theorem SetV.upto {v : Value} {n : Nat} {B : Nat → Bool} {w : World} (h : SetV v n B w) : Upto B n := by
  cases h with
  | nil => exact .none
  | at_ h => exact h.upto

theorem SetV.keep {v : Value} {n : Nat} {B : Nat → Bool} {w w' : World} (h : SetV v n B w) (hs : w'.heap = w.heap) : SetV v n B w' := by
  cases h with
  | nil => exact .nil _
  | at_ h => exact .at_ (h.keep (by rw [hs]; exact Nat.le_refl _) (by rw [hs]) (by rw [hs]))

theorem SetV.drew {v : Value} {n : Nat} {B : Nat → Bool} {w : World} (h : SetV v n B w) (m : Nat) : SetV v n B (w.drewN m) := h.keep (by rfl)

theorem sz_le {n : Nat} (h : n ≤ 4096) : sz n ≤ 64 := by unfold sz; omega

set_option maxHeartbeats 1000000 in
theorem room_any {v : Value} {n : Nat} {B : Nat → Bool} (w : World) (h : SetV v n B w) :
    Calls Tryz.prog 79 #[v] w fun e w' => e = .returned (.int .i64 n) ∧ w = w' := by
  cases h with
  | nil =>
    go_enter Tryz.func79, Tryz.ntmps79
    go_wp2
    go_ret
    exact ⟨rfl, rfl⟩
  | @at_ p d n B w h =>
    have h0 := h.room
    clear h
    go_enter Tryz.func79, Tryz.ntmps79
    go_wp2
    go_ret
    exact ⟨rfl, rfl⟩

set_option maxHeartbeats 1000000 in
theorem size_any {v : Value} {n : Nat} {B : Nat → Bool} (w : World) (h : SetV v n B w) :
    Calls Tryz.prog 71 #[v] w fun e w' => e = .returned (.int .i64 (sz n)) ∧ w = w' := by
  cases h with
  | nil =>
    go_enter Tryz.func71, Tryz.ntmps71
    go_wp2
    go_ret
    exact ⟨rfl, rfl⟩
  | @at_ p d n B w h =>
    have h0 := h.words
    clear h
    go_enter Tryz.func71, Tryz.ntmps71
    go_wp2
    go_ret
    exact ⟨rfl, rfl⟩

theorem wd_out {B : Nat → Bool} {n k : Nat} (h : Upto B n) (hk : ¬ k < sz n) : wd B k = 0 :=
  wd_zero.2 fun j _ => h.2 _ (by unfold sz at hk; omega)

set_option maxHeartbeats 1000000 in
theorem word_any {v : Value} {n : Nat} {B : Nat → Bool} (w : World) (h : SetV v n B w) (k : Nat) :
    Calls Tryz.prog 72 #[v, .int .i64 k] w fun e w' => e = .returned (.int .u64 (wd B k)) ∧ w = w' := by
  have hsz := size_any w h
  have HSZ := Lib.hid hsz
  clear hsz
  by_cases hlt : k < sz n
  · cases h with
    | nil => simp [sz] at hlt
    | @at_ p d n B w h =>
      have h0 := h.words
      have h1 := h.holds k hlt
      have hb : sz n ≤ 64 := sz_le h.upto.1
      clear h
      go_enter Tryz.func72, Tryz.ntmps72
      go_wp2_with (go_at_call 71; refine HSZ.out.mono ?_; rintro e w' ⟨rfl, rfl⟩)
      go_ret
      exact ⟨rfl, rfl⟩
  · have h0 := Lib.hid (wd_out h.upto hlt)
    clear h
    go_enter Tryz.func72, Tryz.ntmps72
    go_wp2_with (go_at_call 71; refine HSZ.out.mono ?_; rintro e w' ⟨rfl, rfl⟩)
    go_ret
    exact ⟨by rw [h0.out]; rfl, rfl⟩

/-- Is i within the room? -/
def fit (n : Nat) (i : Int) : Bool := decide (0 ≤ i) && decide (i < (n : Int))

set_option maxHeartbeats 1000000 in
theorem fits_any {v : Value} {n : Nat} {B : Nat → Bool} (w : World) (h : SetV v n B w) (i : Int) :
    Calls Tryz.prog 57 #[v, .int .i64 i] w fun e w' => e = .returned (.bool (fit n i)) ∧ w = w' := by
  have HR := Lib.hid (room_any w h)
  clear h
  by_cases h0 : 0 ≤ i
  · by_cases h1 : i < (n : Int)
    · have HF := Lib.hid (show fit n i = true by simp [fit, h0, h1])
      go_enter Tryz.func57, Tryz.ntmps57
      go_wp2_with (go_at_call 79; refine HR.out.mono ?_; rintro e w' ⟨rfl, rfl⟩)
      go_ret
      exact ⟨by rw [HF.out]; first | rfl | (simp; omega), rfl⟩
    · have HF := Lib.hid (show fit n i = false by simp [fit, h0, h1])
      go_enter Tryz.func57, Tryz.ntmps57
      go_wp2_with (go_at_call 79; refine HR.out.mono ?_; rintro e w' ⟨rfl, rfl⟩)
      go_ret
      exact ⟨by rw [HF.out]; first | rfl | (simp; omega), rfl⟩
  · have HF := Lib.hid (show fit n i = false by simp [fit, h0])
    go_enter Tryz.func57, Tryz.ntmps57
    go_wp2_with (go_at_call 79; refine HR.out.mono ?_; rintro e w' ⟨rfl, rfl⟩)
    go_ret
    exact ⟨by rw [HF.out]; rfl, rfl⟩

theorem flip {P : Program} {f : FuncId} {args : Array Value} {w : World} {v : Value} (h : Calls P f args w fun e w' => e = .returned v ∧ w = w') : Calls P f args w fun e w' => e = .returned v ∧ w' = w :=
  h.mono fun _ _ ⟨h1, h2⟩ => ⟨h1, h2.symm⟩

theorem fit_nat {n : Nat} {i : Int} (h : fit n i = true) : ∃ j : Nat, i = (j : Int) ∧ j < n := by
  simp only [fit, Bool.and_eq_true, decide_eq_true_eq] at h
  exact ⟨i.toNat, by omega, by omega⟩

theorem has_fit {n : Nat} {B : Nat → Bool} (hB : Upto B n) {i : Int} (h : fit n i = false) : has B i = false := by
  simp only [fit, Bool.and_eq_false_iff, decide_eq_false_iff_not] at h
  unfold has
  by_cases h0 : 0 ≤ i
  · rcases h with h | h
    · exact absurd h0 h
    · rw [hB.2 _ (by omega)]; simp
  · simp [h0]

theorem has_nat (B : Nat → Bool) (j : Nat) : has B (j : Int) = B j := by simp [has]

theorem bits_has (B : Nat → Bool) (j : Nat) : ∃ m : Nat, bits BinOp.and IntKind.u64 (wd B (j / 64) : Int) (bitOf j : Int) = (m : Int) ∧ ((m : Int) != 0) = B j := by
  refine ⟨_, bits_and_u64_nat _ _ (wd_lt _ _) (bitOf_lt _), ?_⟩
  have h := has_word B j
  cases hb : B j with
  | false =>
    rw [hb] at h
    have : wd B (j / 64) &&& bitOf j = 0 := by
      refine Classical.byContradiction fun hn => ?_
      exact absurd (h.1 hn) (by simp)
    rw [this]; rfl
  | true =>
    have := h.2 hb
    rw [bne_iff_ne]; omega

/-- An answer; what was drawn alone has changed. -/
def Draws (v : Value) (w : World) (e : Ending) (w' : World) : Prop := e = .returned v ∧ ∃ m, w' = w.drewN m

set_option maxHeartbeats 1000000 in
theorem has_any {v : Value} {n : Nat} {B : Nat → Bool} (w : World) (h : SetV v n B w) (i : Int) (hi : i ≤ 9223372036854775807) :
    Calls Tryz.prog 29 #[v, .int .i64 i] w (Draws (.bool (has B i)) w) := by
  have HF := Lib.hid (fun m => flip (fits_any (w.drewN m) (h.drew m) i))
  cases hf : fit n i with
  | false =>
    have HH := Lib.hid (has_fit h.upto hf)
    rw [hf] at HF
    clear h hf
    go_enter Tryz.func29, Tryz.ntmps29
    go_wp2_with fail
    go_quiet ((go_at_call 57; exact Calls.quiet_of_same (HF.out _)))
    go_wp2
    go_ret
    exact ⟨by rw [HH.out]; rfl, nq, rfl⟩
  | true =>
    obtain ⟨j, rfl, hj⟩ := fit_nat hf
    cases h with
    | nil => omega
    | @at_ p d n B w h =>
      rw [hf] at HF
      have h0 := h.words
      have hlt : j / 64 < sz n := by unfold sz; omega
      have h1 := h.holds (j / 64) hlt
      have hb : sz n ≤ 64 := sz_le h.upto.1
      have h2 := h.upto.1
      have HB := Lib.hid (fun m => flip (bit_any j (w.drewN m) (by omega)))
      obtain ⟨m, e1, e2⟩ := bits_has B j
      rw [has_nat, ← e2]
      clear h hf e2
      go_enter Tryz.func29, Tryz.ntmps29
      go_wp2_with fail
      go_quiet (first | (go_at_call 57; exact Calls.quiet_of_same (HF.out _)) | (go_at_call 58; exact Calls.quiet_of_same (HB.out _)))
      go_wp2
      go_ret
      exact ⟨rfl, nq, rfl⟩

end Go.Proofs.YtoipinnfmjaaaaaGreatDoor.Bt

namespace Go.Proofs.YtoipinnfmjaaaaaGreatDoor.Bt
open Go.RowKit

/-- The numbers below 64k. -/
def cnt (B : Nat → Bool) (k : Nat) : Nat := ((List.range (64 * k)).filter B).length

theorem cnt_succ (B : Nat → Bool) (k : Nat) : cnt B (k + 1) = cnt B k + vs 1 64 (wd B k) := count_step B k
theorem cnt_zero (B : Nat → Bool) : cnt B 0 = 0 := by simp [cnt]
theorem cnt_le (B : Nat → Bool) (k : Nat) : cnt B k ≤ 64 * k := count_len B _
theorem cnt_end {B : Nat → Bool} {n : Nat} (h : Upto B n) : cnt B (sz n) = (els B).length := count_end h (by unfold sz; omega)

set_option maxHeartbeats 1000000 in
theorem count_any {v : Value} {n : Nat} {B : Nat → Bool} (w : World) (h : SetV v n B w) :
    Calls Tryz.prog 60 #[v] w fun e w' => e = .returned (.int .i64 (els B).length) ∧ w = w' := by
  have HS := Lib.hid (size_any w h)
  have HW := Lib.hid (word_any w h)
  have HO := Lib.hid (fun k => ones_any (wd B k) w (wd_lt B k))
  have HE := Lib.hid (cnt_end h.upto)
  have hb : sz n ≤ 64 := sz_le h.upto.1
  clear h
  go_enter Tryz.func60, Tryz.ntmps60
  go_wp2_with (go_at_call 71; refine HS.out.mono ?_; rintro e w' ⟨rfl, rfl⟩)
  go_loop [3, 7] (fun c i => ∃ k : Nat, k ≤ sz n ∧ i = .int .i64 k ∧ c = .int .i64 (cnt B k)) (fun _ i => sz n - (intOf i).toNat)
  case atStart => exact ⟨0, Nat.zero_le _, rfl, by rw [cnt_zero]; rfl⟩
  case round =>
    obtain ⟨k, hk, rfl, rfl⟩ := hrel
    have hc := cnt_le B k
    have hc0 : (0 : Int) ≤ (cnt B k : Int) := by omega
    by_cases hlt : k < sz n
    · have hv := vs_le 64 (wd B k)
      have HC := Lib.hid (cnt_succ B k)
      go_wp2_with (first | (go_at_call 72; refine (HW.out _).mono ?_; rintro e w' ⟨rfl, rfl⟩) | (go_at_call 80; refine (HO.out _).mono ?_; rintro e w' ⟨rfl, rfl⟩))
      go_round
      case rel => exact ⟨k + 1, by omega, by go_num, by rw [HC.out]; go_num⟩
      case measure => simp [intOf]; omega
    · have he : k = sz n := by omega
      have HE2 : Hid (cnt B k = (els B).length) := by rw [he]; exact HE.out
      clear he
      go_wp2
      go_ret
      exact ⟨by rw [HE2.out]; rfl, rfl⟩

/-- No number in common below 64k. -/
def Apart (B C : Nat → Bool) (k : Nat) : Prop := ∀ i, i < 64 * k → B i = true → C i = false

theorem bits_meet (B C : Nat → Bool) (k : Nat) : bits BinOp.and IntKind.u64 (wd B k : Int) (wd C k : Int) = (wd (fun i => B i && C i) k : Int) := by
  rw [bits_and_u64_nat _ _ (wd_lt _ _) (wd_lt _ _), wd_and]

theorem meet_step {B C : Nat → Bool} {k : Nat} (h : Apart B C k) (hz : wd (fun i => B i && C i) k = 0) : Apart B C (k + 1) := by
  intro i hi hb
  by_cases hlt : i < 64 * k
  · exact h i hlt hb
  · have := wd_zero.1 hz (i - 64 * k) (by omega)
    rw [show 64 * k + (i - 64 * k) = i from by omega] at this
    simpa [hb] using this

theorem meet_end {B C : Nat → Bool} {n : Nat} (hB : Upto B n) (h : Apart B C (sz n)) : meet B C = false :=
  meet_no fun i hb => by
    by_cases hi : i < n
    · exact h i (by unfold sz; omega) hb
    · rw [hB.2 i (by omega)] at hb; cases hb

theorem meet_found {B C : Nat → Bool} {n k : Nat} (hB : Upto B n) (hz : wd (fun i => B i && C i) k ≠ 0) : meet B C = true := by
  obtain ⟨j, _, hb⟩ := wd_ne hz
  simp only [Bool.and_eq_true] at hb
  exact meet_yes hB hb.1 hb.2

/-- The same below 64k. -/
def Alike (B C : Nat → Bool) (k : Nat) : Prop := ∀ i, i < 64 * k → B i = C i

theorem alike_step {B C : Nat → Bool} {k : Nat} (h : Alike B C k) (he : wd B k = wd C k) : Alike B C (k + 1) := by
  intro i hi
  by_cases hlt : i < 64 * k
  · exact h i hlt
  · have h1 := wd_bit B k (i - 64 * k)
    have h2 := wd_bit C k (i - 64 * k)
    have h3 : i - 64 * k < 64 := by omega
    rw [show 64 * k + (i - 64 * k) = i from by omega] at h1 h2
    rw [he, h2] at h1
    simpa [h3] using h1.symm

/-- Are both the same? -/
def same (B C : Nat → Bool) : Bool := els B == els C

theorem alike_end {B C : Nat → Bool} {n m k : Nat} (hB : Upto B n) (hC : Upto C m) (hk : max (sz n) (sz m) ≤ k) (h : Alike B C k) : same B C = true := by
  have : B = C := by
    funext i
    by_cases hi : i < 64 * k
    · exact h i hi
    · rw [hB.2 i (by unfold sz at hk; omega), hC.2 i (by unfold sz at hk; omega)]
  simp [same, this]

theorem alike_not {B C : Nat → Bool} {n m k : Nat} (hB : Upto B n) (hC : Upto C m) (h : wd B k ≠ wd C k) : same B C = false := by
  unfold same
  rw [beq_eq_false_iff_ne]
  intro he
  rw [els_eq hB hC] at he
  exact h (by rw [he])

/-- Nothing from i on in the words before k. -/
def Bare (B : Nat → Bool) (i k : Nat) : Prop := ∀ j, i ≤ j → j < 64 * k → B j = false

/-- What is struck out of word k where one looks from i on. -/
def below (i k : Nat) : Nat := if k = i / 64 then bitOf i - 1 else 0

theorem below_lt (i k : Nat) : below i k < 18446744073709551616 := by
  have := bitOf_lt i
  unfold below
  split <;> omega

theorem below_word (B : Nat → Bool) (i k : Nat) (h : i / 64 ≤ k) : bits BinOp.andNot IntKind.u64 (wd B k : Int) (below i k : Int) = (wd (from_ B i) k : Int) := by
  have hb := below_lt i k
  have h1 := wd_lt B k
  rw [u64_andNot _ _ (by omega) (by omega) (by omega) (by omega), Int.toNat_natCast, Int.toNat_natCast]
  congr 1
  unfold below
  split
  · rename_i e; rw [e]; exact below_first B i
  · rw [below_later B i k (by omega), Nat.sub_zero]
    apply Nat.eq_of_testBit_eq
    intro j
    rw [Nat.testBit_and, wd_bit, show 18446744073709551615 = 2 ^ 64 - 1 from rfl, Nat.testBit_two_pow_sub_one]
    by_cases hj : j < 64 <;> simp [hj]

theorem bare_step {B : Nat → Bool} {i k : Nat} (h : Bare B i k) (hz : wd (from_ B i) k = 0) : Bare B i (k + 1) := by
  intro j hij hj
  by_cases hlt : j < 64 * k
  · exact h j hij hlt
  · have := wd_zero.1 hz (j - 64 * k) (by omega)
    rw [show 64 * k + (j - 64 * k) = j from by omega] at this
    simpa [from_, hij] using this

theorem bare_found {B : Nat → Bool} {n i k : Nat} (hB : Upto B n) (h : Bare B i k) (hz : wd (from_ B i) k ≠ 0) :
    Lib.ctz 64 (wd (from_ B i) k) < 64 ∧ next B (i : Int) = ((k * 64 + Lib.ctz 64 (wd (from_ B i) k) : Nat) : Int) := by
  obtain ⟨hc, h1, h2⟩ := ctz_bit hz (wd_lt _ _)
  refine ⟨hc, ?_⟩
  generalize Lib.ctz 64 (wd (from_ B i) k) = c at *
  rw [wd_bit] at h1
  have e : k * 64 + c = 64 * k + c := by omega
  simp only [from_, Bool.and_eq_true, decide_eq_true_eq] at h1
  rw [e]
  refine next_yes hB _ (by omega) h1.2.1 fun j hij hj => ?_
  by_cases hlt : j < 64 * k
  · exact h j (by omega) hlt
  · have := h2 (j - 64 * k) (by omega)
    rw [wd_bit, show 64 * k + (j - 64 * k) = j from by omega] at this
    have h3 : j - 64 * k < 64 := by omega
    have h4 : i ≤ j := by omega
    simpa [from_, h3, h4] using this

theorem bare_end {B : Nat → Bool} {n i k : Nat} (hB : Upto B n) (hk : sz n ≤ k) (h : Bare B i k) : next B (i : Int) = -1 :=
  next_no _ fun j hij => by
    by_cases hlt : j < 64 * k
    · exact h j (by omega) hlt
    · exact hB.2 j (by unfold sz at hk; omega)

theorem wrap_below (i : Nat) : IntKind.u64.wrap ((bitOf i : Int) - 1) = (below i (i / 64) : Int) := by
  have := bitOf_lt i
  have := bitOf_pos i
  rw [IntKind.wrap_u64]
  simp only [below, if_true]
  omega

theorem below_next (i k : Nat) (h : i / 64 ≤ k) : below i (k + 1) = 0 := by
  unfold below
  rw [if_neg (by omega)]

set_option maxHeartbeats 1000000 in
theorem next_nat {v : Value} {n : Nat} {B : Nat → Bool} (w : World) (h : SetV v n B w) (hT : Tab w) (f : Int) (i : Nat) (hf : max f 0 = (i : Int)) (hi : i ≤ 9223372036854775807) :
    Calls Tryz.prog 61 #[v, .int .i64 f] w fun e w' => e = .returned (.int .i64 (next B (i : Int))) ∧ w = w' := by
  have HS := Lib.hid (size_any w h)
  have HW := Lib.hid (word_any w h)
  have HT := Lib.hid hT
  have HU := Lib.hid h.upto
  have HB := Lib.hid (bit_any i w hi)
  have hb : sz n ≤ 64 := sz_le h.upto.1
  have hw := wrap_below i
  clear h hT
  have HF := Lib.hid hf
  clear hf
  go_enter Tryz.func61, Tryz.ntmps61
  go_upto_region 1 with (fail)
  go_cut [1] (fun s1 wx => s1 = .int .i64 (i : Int) ∧ w = wx)
  case first =>
    by_cases hneg : f < 0
    · have HI := Lib.hid (show (i : Int) = 0 by have := HF.out; omega)
      go_wp2
      go_meet
      case rel => exact ⟨by rw [HI.out], rfl⟩
    · have HI := Lib.hid (show (i : Int) = f by have := HF.out; omega)
      go_wp2
      go_meet
      case rel => exact ⟨by rw [HI.out], rfl⟩
  case rest =>
    obtain ⟨rfl, rfl⟩ := hcut
    go_wp2_with (go_at_call 58; refine HB.out.mono ?_; rintro e w' ⟨rfl, rfl⟩)
    clear hw
    go_loop [5, 6] (fun b s => ∃ k : Nat, i / 64 ≤ k ∧ s = .int .i64 k ∧ b = .int .u64 (below i k) ∧ Bare B i k) (fun _ s => sz n - (intOf s).toNat)
    case atStart => exact ⟨i / 64, Nat.le_refl _, by rw [show ((i / 64 : Nat) : Int) = (i : Int) / 64 from by omega], rfl, fun j hij hj => by omega⟩
    case round =>
      obtain ⟨k, hk, rfl, rfl, ha⟩ := hrel
      have HA := Lib.hid ha
      clear ha
      by_cases hlt : k < sz n
      · have HE := below_word B i k hk
        by_cases hz : wd (from_ B i) k = 0
        · have HN := Lib.hid (bare_step HA.out hz)
          have HL := Lib.hid (below_next i k hk)
          rw [hz] at HE
          clear hz
          go_wp2_with (first | (go_at_call 71; refine HS.out.mono ?_; rintro e w' ⟨rfl, rfl⟩) | (go_at_call 72; refine (HW.out _).mono ?_; rintro e w' ⟨rfl, rfl⟩))
          go_round
          case rel => exact ⟨k + 1, by omega, by go_num, by rw [HL.out]; rfl, HN.out⟩
          case measure => simp [intOf]; omega
        · obtain ⟨hc, hn⟩ := bare_found HU.out HA.out hz
          have HN := Lib.hid hn
          have hne : ((wd (from_ B i) k : Int) != 0) = true := by rw [bne_iff_ne]; omega
          have HZ := Lib.hid (tz_any _ hz (wd_lt _ _) w HT.out)
          clear hz hn
          generalize Lib.ctz 64 (wd (from_ B i) k) = c at *
          generalize wd (from_ B i) k = z at *
          go_wp2_with (first | (go_at_call 71; refine HS.out.mono ?_; rintro e w' ⟨rfl, rfl⟩) | (go_at_call 72; refine (HW.out _).mono ?_; rintro e w' ⟨rfl, rfl⟩) | (go_at_call 81; refine HZ.out.mono ?_; rintro e w' ⟨rfl, rfl⟩))
          go_ret
          exact ⟨by rw [HN.out]; simp, rfl⟩
      · have HN := Lib.hid (bare_end HU.out (by omega) HA.out)
        go_wp2_with (go_at_call 71; refine HS.out.mono ?_; rintro e w' ⟨rfl, rfl⟩)
        go_ret
        exact ⟨by rw [HN.out]; rfl, rfl⟩

theorem next_any {v : Value} {n : Nat} {B : Nat → Bool} (w : World) (h : SetV v n B w) (hT : Tab w) (f : Int) (hf : f ≤ 9223372036854775807) :
    Calls Tryz.prog 61 #[v, .int .i64 f] w fun e w' => e = .returned (.int .i64 (next B f)) ∧ w = w' := by
  have e : max f 0 = ((max f 0).toNat : Int) := by omega
  have := next_nat w h hT f (max f 0).toNat e (by omega)
  rw [← e, next_max] at this
  exact this

end Go.Proofs.YtoipinnfmjaaaaaGreatDoor.Bt

namespace Go.Proofs.YtoipinnfmjaaaaaGreatDoor.Bt
open Go.RowKit

theorem info_u64 : (Tryz.prog.info? 70).map (fun i => (i.zero, i.size, i.bytes)) = some (some (.int .u64 0), 1, 8) := by kernel_rfl

theorem make_words (c : Nat) (hc : c ≤ 4096) (w : World) :
    (Instr.makeSlice 71 (.int .i64 (((c : Int) + 64 - 1) / 64)) (.int .i64 (((c : Int) + 64 - 1) / 64))).run Tryz.prog w = .ok (.slice (some ⟨w.heap.size, 0, none⟩) (sz c) (sz c)) (w.alloc (.cells (madeCells #[.int .u64 0] (sz c)) 70)) := by
  have e : ((c : Int) + 64 - 1) / 64 = ((sz c : Nat) : Int) := by unfold sz; omega
  have := sz_le hc
  rw [e]
  exact run_make_row' 71 70 (.int .u64 0) 8 Tryz.underlying71 info_u64 rfl .i64 .i64 (sz c) (by omega) (by omega) w

theorem none_word (k : Nat) : wd (fun _ => false) k = 0 := wd_zero.2 fun _ _ => rfl

theorem made_cell (n k : Nat) (h : k < n) (z : Value) : (madeCells #[z] n)[k]? = some z := by
  simp [madeCells, h, Nat.mod_one]

/-- The room that New gives. -/
def cap (n : Int) : Nat := (min (max n 0) 4096).toNat

theorem cap_le (n : Int) : cap n ≤ 4096 := by unfold cap; omega

/-- A new set's value, and that nothing that was there is written. -/
def Made (n : Nat) (w : World) (e : Ending) (w' : World) : Prop :=
  ∃ p d, e = .returned (.pointer (some ⟨p, 0, none⟩)) ∧ w.heap.size ≤ p ∧ w.heap.size ≤ d ∧ SetAt p d n (fun _ => false) w' ∧ Below w.heap.size w w' ∧ w'.heap[d]? = some (.cells (madeCells #[.int .u64 0] (sz n)) 70 (0, 0))

set_option maxHeartbeats 1000000 in
theorem new_any (n : Int) (w : World) :
    Calls Tryz.prog 46 #[.int .i64 n] w (Made (cap n) w) := by
  have hc := cap_le n
  go_enter Tryz.func46, Tryz.ntmps46
  go_upto_region 1 with (fail)
  go_cut [0] (fun s1 wx => s1 = .int .i64 (cap n : Int) ∧ w = wx)
  case first =>
    by_cases hneg : n < 0
    · have HI := Lib.hid (show (cap n : Int) = 0 by unfold cap; omega)
      go_wp2
      go_meet
      case rel => exact ⟨by rw [HI.out], rfl⟩
    · by_cases hbig : 4096 < n
      · have HI := Lib.hid (show (cap n : Int) = 4096 by unfold cap; omega)
        go_wp2
        go_meet
        case rel => exact ⟨by rw [HI.out], rfl⟩
      · have HI := Lib.hid (show (cap n : Int) = n by unfold cap; omega)
        go_wp2
        go_meet
        case rel => exact ⟨by rw [HI.out], rfl⟩
  case rest =>
    obtain ⟨rfl, rfl⟩ := hcut
    generalize cap n = c at *
    have hmk := make_words c hc
    go_wp2
    go_ret
    refine ⟨w.heap.size + 1, w.heap.size, rfl, by omega, Nat.le_refl _, ⟨by simp, by simp, fun k hk => ?_, fun k hk => ?_, by omega, by simp, by simp; omega, .empty hc⟩, ((Below.refl _ _).alloc (Nat.le_refl _) _).alloc (by simp) _, ?_⟩
    · rw [none_word]
      simp [made_cell _ _ hk]
    · simp
    · rw [Below.heap_alloc _ _ _ (by simp)]; exact Deep.blk_alloc_new _ _

/-- All blocks but d, that were there, are as they were. -/
structure Keeps (d : Nat) (w w' : World) : Prop where
  os : w'.os = w.os
  tape : w'.tape = w.tape
  output : w'.output = w.output
  size : w.heap.size ≤ w'.heap.size
  block : ∀ k, k < w.heap.size → k ≠ d → w'.heap[k]? = w.heap[k]?

theorem Keeps.refl (d : Nat) (w : World) : Keeps d w w := ⟨rfl, rfl, rfl, Nat.le_refl _, fun _ _ _ => rfl⟩
theorem Keeps.trans {d : Nat} {a b c : World} (h : Keeps d a b) (k : Keeps d b c) : Keeps d a c :=
  ⟨k.os.trans h.os, k.tape.trans h.tape, k.output.trans h.output, Nat.le_trans h.size k.size, fun i hi hd => (k.block i (Nat.lt_of_lt_of_le hi h.size) hd).trans (h.block i hi hd)⟩
theorem Keeps.drewN {d : Nat} {a w : World} (h : Keeps d a w) (m : Nat) : Keeps d a (w.drewN m) := ⟨h.os, h.tape, h.output, h.size, h.block⟩
theorem Keeps.drew {d : Nat} {a w : World} (h : Keeps d a w) : Keeps d a w.drew := ⟨h.os, h.tape, h.output, h.size, h.block⟩
theorem Keeps.setCell {d : Nat} {a w : World} (h : Keeps d a w) (k : Nat) (u : Value) : Keeps d a (w.setCell ⟨d, k, none⟩ u) :=
  h.trans ⟨rfl, rfl, rfl, by simp [World.setCell], fun i _ hd => Below.heap_setCell _ _ _ _ (by simpa using hd)⟩
theorem Keeps.below {d m : Nat} {a w : World} (h : Keeps d a w) (hm : m ≤ d) (hs : m ≤ a.heap.size) : Below m a w :=
  ⟨h.os, h.tape, h.output, h.size, fun i hi => h.block i (by omega) (by omega)⟩

theorem SetAt.keeps {p d n b : Nat} {B : Nat → Bool} {w w' : World} (h : SetAt p d n B w) (k : Keeps b w w') (hp : p ≠ b) (hd : d ≠ b) : SetAt p d n B w' :=
  h.keep k.size (k.block _ h.inp hp) (k.block _ h.ind hd)
theorem SetAt.below {p d n m : Nat} {B : Nat → Bool} {w w' : World} (h : SetAt p d n B w) (k : Below m w w') (hp : p < m) (hd : d < m) : SetAt p d n B w' :=
  h.keep k.size (k.block _ hp) (k.block _ hd)
theorem SetAt.drewN {p d n : Nat} {B : Nat → Bool} {w : World} (h : SetAt p d n B w) (m : Nat) : SetAt p d n B (w.drewN m) :=
  h.keep (Nat.le_refl _) rfl rfl

/-- One word is written. -/
theorem SetAt.store {p d n k : Nat} {B B' : Nat → Bool} {w : World} (h : SetAt p d n B w) (hk : k < sz n) (hB : Upto B' n) (ho : ∀ i, i ≠ k → wd B' i = wd B i) : SetAt p d n B' (w.setCell ⟨d, k, none⟩ (.int .u64 (wd B' k))) := by
  refine ⟨?_, ?_, fun i hi => ?_, fun i hi => ?_, h.apart, by simpa [World.setCell] using h.inp, by simpa [World.setCell] using h.ind, hB⟩
  · rw [World.cell?_setCell_other _ _ _ _ (by intro e; exact h.apart (congrArg Addr.block e).symm)]; exact h.room
  · rw [World.cell?_setCell_other _ _ _ _ (by intro e; exact h.apart (congrArg Addr.block e).symm)]; exact h.words
  · by_cases e : i = k
    · subst e
      exact World.cell?_setCell_same _ _ _ (h.holds i hi)
    · rw [World.cell?_setCell_other _ _ _ _ (by intro e2; exact e (congrArg Addr.off e2).symm), ho i e]; exact h.holds i hi
  · rw [World.frozen?_setCell]; exact h.free i hi

/-- What a call that writes the set at p, d answers, and what is there behind it. -/
def Wrote (r : Bool) (p d n : Nat) (B : Nat → Bool) (w : World) (e : Ending) (w' : World) : Prop := e = .returned (.bool r) ∧ SetAt p d n B w' ∧ Keeps d w w'

theorem bits_put (B : Nat → Bool) (j : Nat) : bits BinOp.or IntKind.u64 (wd B (j / 64) : Int) (bitOf j : Int) = (wd (put B j) (j / 64) : Int) := by
  rw [bits_or_u64_nat _ _ (wd_lt _ _) (bitOf_lt _), put_word]

theorem bits_cut (B : Nat → Bool) (j : Nat) : bits BinOp.andNot IntKind.u64 (wd B (j / 64) : Int) (bitOf j : Int) = (wd (cut B j) (j / 64) : Int) := by
  have h1 := wd_lt B (j / 64)
  have h2 := bitOf_lt j
  rw [u64_andNot _ _ (by omega) (by omega) (by omega) (by omega), Int.toNat_natCast, Int.toNat_natCast]
  exact congrArg _ (cut_word B j)

set_option maxHeartbeats 1000000 in
theorem put_nil (i : Int) (w : World) :
    Calls Tryz.prog 48 #[.pointer none, .int .i64 i] w fun e w' => e = .returned (.bool false) ∧ w = w' := by
  have HF := Lib.hid (fits_any w (.nil w) i)
  have hf : fit 0 i = false := by simp [fit]
  rw [hf] at HF
  clear hf
  go_enter Tryz.func48, Tryz.ntmps48
  go_wp2_with (go_at_call 57; refine HF.out.mono ?_; rintro e w' ⟨rfl, rfl⟩)
  go_ret
  exact ⟨rfl, rfl⟩

set_option maxHeartbeats 4000000 in
set_option maxRecDepth 100000 in
theorem put_any {p d n : Nat} {B : Nat → Bool} (w : World) (h : SetAt p d n B w) (i : Int) (hi : i ≤ 9223372036854775807) :
    Calls Tryz.prog 48 #[.pointer (some ⟨p, 0, none⟩), .int .i64 i] w (Wrote (putR B n i) p d n (putI B n i) w) := by
  have HF := Lib.hid (fits_any w (.at_ h) i)
  have HH := Lib.hid (has_any w (.at_ h) i hi)
  cases hf : fit n i with
  | false =>
    have e1 : putR B n i = false := by simp only [fit] at hf; simp [putR, hf]
    have e2 : putI B n i = B := by
      unfold putI
      rw [if_neg]
      intro hc
      simp [fit, hc.1, hc.2] at hf
    rw [e1, e2]
    rw [hf] at HF
    have HA := Lib.hid h
    clear h hf e1 e2
    go_enter Tryz.func48, Tryz.ntmps48
    go_wp2_with (go_at_call 57; refine HF.out.mono ?_; rintro e w' ⟨rfl, rfl⟩)
    go_ret
    exact ⟨rfl, HA.out, .refl _ _⟩
  | true =>
    obtain ⟨j, rfl, hj⟩ := fit_nat hf
    rw [hf] at HF
    rw [has_nat] at HH
    cases hb : B j with
    | true =>
      have e1 : putR B n (j : Int) = false := by simp [putR, hb]
      have e2 : putI B n (j : Int) = B := by
        unfold putI
        split
        · exact put_same hb
        · rfl
      rw [e1, e2]
      rw [hb] at HH
      have HA := Lib.hid h
      clear h hf e1 e2 hb
      go_enter Tryz.func48, Tryz.ntmps48
      go_wp2_with (first | (go_at_call 57; refine HF.out.mono ?_; rintro e w' ⟨rfl, rfl⟩) | (go_at_call 29; refine HH.out.mono ?_; rintro e w' ⟨rfl, m, rfl⟩))
      go_ret
      exact ⟨rfl, HA.out.drewN _, (Keeps.refl _ _).drewN _⟩
    | false =>
      have e1 : putR B n (j : Int) = true := by simp [putR, hb, hj]
      have e2 : putI B n (j : Int) = put B j := by
        unfold putI
        rw [if_pos (by omega)]
        rfl
      rw [e1, e2]
      rw [hb] at HH
      have HA := Lib.hid h
      have hlt : j / 64 < sz n := by unfold sz; omega
      have hs : sz n ≤ 64 := sz_le h.upto.1
      have h2 := h.upto.1
      have HE := Lib.hid (bits_put B j)
      clear h hf e1 e2 hb
      go_enter Tryz.func48, Tryz.ntmps48
      go_wp2_with (first | (go_at_call 57; refine HF.out.mono ?_; rintro e w' ⟨rfl, rfl⟩) | (go_at_call 29; refine HH.out.mono ?_; rintro e w' ⟨rfl, m, rfl⟩))
      have HA2 := Lib.hid (HA.out.drewN m)
      have HK2 := Lib.hid ((Keeps.refl d w).drewN m)
      clear HA HF HH
      generalize w.drewN m = w2 at *
      have c0 := HA2.out.words
      have c1 := HA2.out.holds _ hlt
      have c2 := HA2.out.free _ hlt
      have HB := Lib.hid (flip (bit_any j w2.drew (by omega)))
      have he := HE.out
      have q1 : IntKind.i64.wrap ((j : Int) / 64) = (j : Int) / 64 := IntWalk.i64_in _ (by omega)
      have q2 : (0 : Int) ≤ (j : Int) / 64 := by omega
      have q3 : (j : Int) / 64 < (sz n : Int) := by omega
      have q4 : ((j : Int) / 64).toNat = j / 64 := by omega
      go_still_tail 12, (by kernel_rfl)
      still_call (HB.out)
      repeat still_step
      refine wpStill_nil ?_
      change wpList _ _ _ _ _ w2.drew
      have HS := Lib.hid ((HA2.out.drewN 1).store hlt (HA2.out.upto.put hj) (fun i hi => put_other B j i hi))
      have HK := Lib.hid ((HK2.out.drewN 1).setCell (j / 64) (.int .u64 (wd (put B j) (j / 64))))
      clear q1 q2 q3 q4 he HB HE HA2 HK2
      go_wp2
      go_ret
      exact ⟨rfl, HS.out, HK.out⟩

end Go.Proofs.YtoipinnfmjaaaaaGreatDoor.Bt

namespace Go.Proofs.YtoipinnfmjaaaaaGreatDoor.Bt
open Go.RowKit

/-- Behind k words of Or. -/
def orK (B : Nat → Bool) (n : Nat) (C : Nat → Bool) (k : Nat) : Nat → Bool := fun j => B j || (C j && decide (j < n) && decide (j < 64 * k))
def gk (B : Nat → Bool) (n : Nat) (C : Nat → Bool) (k : Nat) : Bool := (List.range n).any fun i => decide (i < 64 * k) && (C i && !B i)
/-- What word k gains. -/
def more (B : Nat → Bool) (n : Nat) (C : Nat → Bool) : Nat → Bool := fun i => (C i && under n i) && !B i

theorem orK_zero (B C : Nat → Bool) (n : Nat) : orK B n C 0 = B := by funext j; simp [orK]
theorem gk_zero (B C : Nat → Bool) (n : Nat) : gk B n C 0 = false := by simp [gk]

theorem orK_word (B C : Nat → Bool) (n k : Nat) : wd (orK B n C k) k = wd B k :=
  wd_congr fun j _ => by
    have : ¬ 64 * k + j < 64 * k := by omega
    simp only [orK, this, decide_false, Bool.and_false, Bool.or_false]

theorem orK_other (B C : Nat → Bool) (n k i : Nat) (h : i ≠ k) : wd (orK B n C (k + 1)) i = wd (orK B n C k) i :=
  wd_congr fun j _ => by
    have : decide (64 * i + j < 64 * (k + 1)) = decide (64 * i + j < 64 * k) := by simp; omega
    simp only [orK, this]

theorem orK_step (B C : Nat → Bool) (n k : Nat) : wd B k ||| wd (more B n C) k = wd (orK B n C (k + 1)) k := by
  rw [wd_or]
  refine wd_congr fun j hj => ?_
  have : 64 * k + j < 64 * (k + 1) := by omega
  simp only [orK, more, under, this, decide_true, Bool.and_true]
  cases B (64 * k + j) <;> simp

theorem orK_same {B C : Nat → Bool} {n k : Nat} (h : wd (more B n C) k = 0) : orK B n C (k + 1) = orK B n C k := by
  funext i
  by_cases hi : 64 * k ≤ i ∧ i < 64 * (k + 1)
  · have hz := wd_zero.1 h (i - 64 * k) (by omega)
    rw [show 64 * k + (i - 64 * k) = i from by omega] at hz
    simp only [more, under] at hz
    simp only [orK]
    revert hz
    cases B i <;> cases C i <;> by_cases hn : i < n <;> simp [hn]
  · have : decide (i < 64 * (k + 1)) = decide (i < 64 * k) := by simp; omega
    simp only [orK, this]

theorem gk_same {B C : Nat → Bool} {n k : Nat} (h : wd (more B n C) k = 0) : gk B n C (k + 1) = gk B n C k := by
  unfold gk
  rw [Bool.eq_iff_iff, List.any_eq_true, List.any_eq_true]
  constructor
  · rintro ⟨i, hi, hb⟩
    refine ⟨i, hi, ?_⟩
    simp only [Bool.and_eq_true, decide_eq_true_eq] at hb ⊢
    refine ⟨?_, hb.2⟩
    refine Classical.byContradiction fun hn => ?_
    have hz := wd_zero.1 h (i - 64 * k) (by omega)
    rw [show 64 * k + (i - 64 * k) = i from by omega] at hz
    have := List.mem_range.1 hi
    simp [more, under, hb.2.1, this] at hz
    simp [hz] at hb
  · rintro ⟨i, hi, hb⟩
    refine ⟨i, hi, ?_⟩
    simp only [Bool.and_eq_true, decide_eq_true_eq] at hb ⊢
    exact ⟨by omega, hb.2⟩

theorem gk_more {B C : Nat → Bool} {n k : Nat} (h : wd (more B n C) k ≠ 0) : gk B n C (k + 1) = true := by
  obtain ⟨j, hj, hb⟩ := wd_ne h
  simp only [more, under, Bool.and_eq_true, decide_eq_true_eq] at hb
  unfold gk
  rw [List.any_eq_true]
  refine ⟨64 * k + j, List.mem_range.2 hb.1.2, ?_⟩
  simp only [Bool.and_eq_true, decide_eq_true_eq]
  exact ⟨by omega, hb.1.1, hb.2⟩

theorem orK_end (B C : Nat → Bool) (n : Nat) : orK B n C (sz n) = orr B n C := by
  funext i
  simp only [orK, orr]
  by_cases hi : i < n
  · have : i < 64 * sz n := by unfold sz; omega
    simp [hi, this]
  · simp [hi]

theorem gk_end (B C : Nat → Bool) (n : Nat) : gk B n C (sz n) = gains B n C := by
  unfold gk gains
  rw [Bool.eq_iff_iff, List.any_eq_true, List.any_eq_true]
  constructor
  · rintro ⟨i, hi, hb⟩
    simp only [Bool.and_eq_true, decide_eq_true_eq] at hb
    exact ⟨i, hi, by simpa using hb.2⟩
  · rintro ⟨i, hi, hb⟩
    have := List.mem_range.1 hi
    refine ⟨i, hi, ?_⟩
    simp only [Bool.and_eq_true, decide_eq_true_eq] at hb ⊢
    exact ⟨by unfold sz; omega, hb⟩

theorem orK_upto {B : Nat → Bool} {n : Nat} (h : Upto B n) (C : Nat → Bool) (k : Nat) : Upto (orK B n C k) n :=
  ⟨h.1, fun j hj => by
    have : ¬ j < n := by omega
    simp [orK, h.2 j hj, this]⟩

/-- A set, or nil, that lies apart from the block d. -/
inductive OtherV (d : Nat) : Value → Nat → (Nat → Bool) → World → Prop
  | nil (w : World) : OtherV d (.pointer none) 0 (fun _ => false) w
  | at_ {p2 d2 m : Nat} {C : Nat → Bool} {w : World} (h : SetAt p2 d2 m C w) (hp : p2 ≠ d) (hd : d2 ≠ d) : OtherV d (.pointer (some ⟨p2, 0, none⟩)) m C w

theorem OtherV.set {d : Nat} {u : Value} {m : Nat} {C : Nat → Bool} {w : World} (h : OtherV d u m C w) : SetV u m C w := by
  cases h with
  | nil => exact .nil _
  | at_ h _ _ => exact .at_ h

theorem OtherV.keeps {d : Nat} {u : Value} {m : Nat} {C : Nat → Bool} {w w' : World} (h : OtherV d u m C w) (k : Keeps d w w') : OtherV d u m C w' := by
  cases h with
  | nil => exact .nil _
  | at_ h hp hd => exact .at_ (h.keeps k hp hd) hp hd

theorem allowed_bits (n k : Nat) (h : 64 * k < n) : ∃ X : Nat, Op.shift BinOp.shl IntKind.u64 1 IntKind.u64 ((n : Int) - (k : Int) * 64) = pure (.int .u64 (X : Int)) ∧ IntKind.u64.wrap ((X : Int) - 1) = (wd (under n) k : Int) := by
  refine ⟨2 ^ (n - 64 * k) % 18446744073709551616, ?_, ?_⟩
  · rw [shift_shl_any _ _ _ _ (by omega), show ((n : Int) - (k : Int) * 64).toNat = n - 64 * k from by omega]
    congr 2
    rw [IntKind.wrap_u64, Int.one_mul]
    by_cases hb : n - 64 * k ≤ 64
    · rw [show min (n - 64 * k) IntKind.u64.bits = n - 64 * k from by simp [IntKind.bits]; omega]
      have e : ((2 : Int) ^ (n - 64 * k)) = ((2 ^ (n - 64 * k) : Nat) : Int) := by simp
      rw [e]; rfl
    · rw [show min (n - 64 * k) IntKind.u64.bits = 64 from by simp [IntKind.bits]; omega]
      have hd : 2 ^ (n - 64 * k) % 2 ^ 64 = 0 := Nat.mod_eq_zero_of_dvd (Nat.pow_dvd_pow 2 (by omega))
      have hd2 : 2 ^ (n - 64 * k) % 18446744073709551616 = 0 := hd
      rw [hd2]; rfl
  · rw [← under_word n k h]
    generalize 2 ^ (n - 64 * k) = p
    rw [IntKind.wrap_u64]
    omega

set_option maxHeartbeats 1000000 in
theorem allowed_any {p d n : Nat} {B : Nat → Bool} (w : World) (h : SetAt p d n B w) (k : Nat) (hk : k < sz n) :
    Calls Tryz.prog 73 #[.pointer (some ⟨p, 0, none⟩), .int .i64 k] w fun e w' => e = .returned (.int .u64 (wd (under n) k)) ∧ w = w' := by
  have h0 := h.room
  have hn := h.upto.1
  have hlt : 64 * k < n := by unfold sz at hk; omega
  have hs : sz n ≤ 64 := sz_le h.upto.1
  clear h
  obtain ⟨X, e1, e2⟩ := allowed_bits n k hlt
  go_enter Tryz.func73, Tryz.ntmps73
  go_wp2
  go_ret
  exact ⟨rfl, rfl⟩

set_option maxHeartbeats 1000000 in
theorem or_nil {u : Value} (w : World) :
    Calls Tryz.prog 49 #[.pointer none, u] w fun e w' => e = .returned (.bool false) ∧ w = w' := by
  have hS := size_any w (.nil w)
  rw [show sz 0 = 0 from rfl] at hS
  have HS := Lib.hid hS
  clear hS
  go_enter Tryz.func49, Tryz.ntmps49
  go_wp2_with (go_at_call 71; refine HS.out.mono ?_; rintro e w' ⟨rfl, rfl⟩)
  go_loop [5, 10] (fun c i => c = .bool false ∧ i = .int .i64 0) (fun _ _ => 0)
  case atStart => exact ⟨rfl, rfl⟩
  case round =>
    obtain ⟨rfl, rfl⟩ := hrel
    go_wp2
    go_ret
    exact ⟨rfl, rfl⟩

/-- The world of a round of Or. -/
def OrInv (p d n : Nat) (B : Nat → Bool) (u : Value) (m : Nat) (C : Nat → Bool) (w : World) (k : Nat) (wr : World) : Prop :=
  SetAt p d n (orK B n C k) wr ∧ OtherV d u m C wr ∧ Keeps d w wr

theorem bits_more (B C : Nat → Bool) (n k : Nat) : bits BinOp.andNot IntKind.u64 (bits BinOp.and IntKind.u64 (wd C k : Int) (wd (under n) k : Int)) (wd B k : Int) = (wd (more B n C) k : Int) := by
  have h1 := wd_lt B k
  rw [bits_and_u64_nat _ _ (wd_lt _ _) (wd_lt _ _)]
  have h2 : wd C k &&& wd (under n) k < 18446744073709551616 := Nat.lt_of_le_of_lt Nat.and_le_left (wd_lt C k)
  rw [u64_andNot _ _ (by omega) (by omega) (by omega) (by omega), Int.toNat_natCast, Int.toNat_natCast]
  exact congrArg _ (more_word B C n k)

theorem bits_join (B C : Nat → Bool) (n k : Nat) : bits BinOp.or IntKind.u64 (wd B k : Int) (wd (more B n C) k : Int) = (wd (orK B n C (k + 1)) k : Int) := by
  rw [bits_or_u64_nat _ _ (wd_lt _ _) (wd_lt _ _), orK_step]

set_option maxHeartbeats 2000000 in
theorem or_any {p d n m : Nat} {B C : Nat → Bool} {u : Value} (w : World) (h : SetAt p d n B w) (g : OtherV d u m C w) :
    Calls Tryz.prog 49 #[.pointer (some ⟨p, 0, none⟩), u] w (Wrote (gains B n C) p d n (orr B n C) w) := by
  have HS := Lib.hid (size_any w (.at_ h))
  have hs : sz n ≤ 64 := sz_le h.upto.1
  have HU0 := Lib.hid h.upto
  have H0 : Hid (OrInv p d n B u m C w 0 w) := ⟨by rw [orK_zero]; exact h, g, .refl _ _⟩
  clear h g
  go_enter Tryz.func49, Tryz.ntmps49
  go_wp2_with (go_at_call 71; refine HS.out.mono ?_; rintro e w' ⟨rfl, rfl⟩)
  go_loopw [5, 10] (fun c i wr => ∃ k : Nat, k ≤ sz n ∧ i = .int .i64 k ∧ c = .bool (gk B n C k) ∧ OrInv p d n B u m C w k wr) (fun _ i _ => sz n - (intOf i).toNat)
  case atStart => exact ⟨0, Nat.zero_le _, rfl, by rw [gk_zero], H0.out⟩
  case round =>
    obtain ⟨k, hk, rfl, rfl, hi⟩ := hrel
    have HI := Lib.hid hi
    clear hi
    by_cases hlt : k < sz n
    · have HW := Lib.hid (fun q => flip (word_any (wr.drewN q) (HI.out.2.1.set.drew q) k))
      have HA := Lib.hid (fun q => flip (allowed_any (wr.drewN q) (HI.out.1.drewN q) k hlt))
      have c0 := HI.out.1.words
      have c1 := HI.out.1.holds k hlt
      have c2 := HI.out.1.free k hlt
      rw [orK_word] at c1
      have hE := bits_more B C n k
      by_cases hz : wd (more B n C) k = 0
      · have H2 := Lib.hid (orK_same hz)
        have H3 := Lib.hid (gk_same hz)
        rw [hz] at hE
        clear hz
        go_wp2_with fail
        go_quiet (first | (go_at_call 72; exact Calls.quiet_of_same (HW.out _)) | (go_at_call 73; exact Calls.quiet_of_same (HA.out _)))
        go_wp2
        go_roundw
        case rel => exact ⟨k + 1, by omega, by go_num, by rw [H3.out], ⟨by rw [H2.out]; exact HI.out.1.drewN _, HI.out.2.1.keeps ((Keeps.refl _ _).drewN _), HI.out.2.2.drewN _⟩⟩
        case measure => simp [intOf]; omega
      · have H3 := Lib.hid (gk_more hz)
        have hne : ((wd (more B n C) k : Int) != 0) = true := by rw [bne_iff_ne]; omega
        have hJ := bits_join B C n k
        clear hz
        generalize wd (more B n C) k = z at *
        go_wp2_with fail
        go_quiet (first | (go_at_call 72; exact Calls.quiet_of_same (HW.out _)) | (go_at_call 73; exact Calls.quiet_of_same (HA.out _)))
        have HS2 := Lib.hid ((HI.out.1.drewN nq).store hlt (B' := orK B n C (k + 1)) (orK_upto HU0.out C (k + 1)) (fun i hi => orK_other B C n k i hi))
        have HK2 := Lib.hid ((Keeps.refl d wr).drewN nq |>.setCell k (.int .u64 (wd (orK B n C (k + 1)) k)))
        go_wp2
        go_roundw
        case rel => exact ⟨k + 1, by omega, by go_num, by rw [H3.out], ⟨HS2.out, HI.out.2.1.keeps HK2.out, HI.out.2.2.trans HK2.out⟩⟩
        case measure => simp [intOf]; omega
    · have he : k = sz n := by omega
      subst he
      have H2 := Lib.hid (orK_end B C n)
      have H3 := Lib.hid (gk_end B C n)
      go_wp2
      go_ret
      exact ⟨by rw [← H3.out]; rfl, by rw [← H2.out]; exact HI.out.1, HI.out.2.2⟩

end Go.Proofs.YtoipinnfmjaaaaaGreatDoor.Bt

namespace Go.Proofs.YtoipinnfmjaaaaaGreatDoor.Bt
open Go.RowKit

theorem more_self (B : Nat → Bool) (n k : Nat) : wd (more B n B) k = 0 := wd_zero.2 fun j _ => by
  unfold more
  cases B (64 * k + j) <;> simp

theorem bits_self (B : Nat → Bool) (n k : Nat) : bits BinOp.andNot IntKind.u64 (bits BinOp.and IntKind.u64 (wd B k : Int) (wd (under n) k : Int)) (wd B k : Int) = 0 := by
  rw [bits_more B B n k, more_self]
  rfl

/-- The world of a round. -/
def SelfInv (p d n : Nat) (B : Nat → Bool) (w wr : World) : Prop := SetAt p d n B wr ∧ Keeps d w wr

set_option maxHeartbeats 2000000 in
theorem or_self {p d n : Nat} {B : Nat → Bool} (w : World) (h : SetAt p d n B w) :
    Calls Tryz.prog 49 #[.pointer (some ⟨p, 0, none⟩), .pointer (some ⟨p, 0, none⟩)] w (Wrote false p d n B w) := by
  have HS := Lib.hid (size_any w (.at_ h))
  have hs : sz n ≤ 64 := sz_le h.upto.1
  have H0 : Hid (SelfInv p d n B w w) := ⟨h, .refl _ _⟩
  clear h
  go_enter Tryz.func49, Tryz.ntmps49
  go_wp2_with (go_at_call 71; refine HS.out.mono ?_; rintro e w' ⟨rfl, rfl⟩)
  go_loopw [5, 10] (fun c i wr => ∃ k : Nat, k ≤ sz n ∧ i = .int .i64 k ∧ c = .bool false ∧ SelfInv p d n B w wr) (fun _ i _ => sz n - (intOf i).toNat)
  case atStart => exact ⟨0, Nat.zero_le _, rfl, rfl, H0.out⟩
  case round =>
    obtain ⟨k, hk, rfl, rfl, hi⟩ := hrel
    have HI := Lib.hid hi
    clear hi
    by_cases hlt : k < sz n
    · have HW := Lib.hid (fun q => flip (word_any (wr.drewN q) (.at_ (HI.out.1.drewN q)) k))
      have HA := Lib.hid (fun q => flip (allowed_any (wr.drewN q) (HI.out.1.drewN q) k hlt))
      have c0 := HI.out.1.words
      have c1 := HI.out.1.holds k hlt
      have c2 := HI.out.1.free k hlt
      have hE := bits_self B n k
      go_wp2_with fail
      go_quiet (first | (go_at_call 72; exact Calls.quiet_of_same (HW.out _)) | (go_at_call 73; exact Calls.quiet_of_same (HA.out _)))
      go_wp2
      go_roundw
      case rel => exact ⟨k + 1, by omega, by go_num, rfl, ⟨HI.out.1.drewN _, HI.out.2.drewN _⟩⟩
      case measure => simp [intOf]; omega
    · go_wp2
      go_ret
      exact ⟨rfl, HI.out.1, HI.out.2⟩

end Go.Proofs.YtoipinnfmjaaaaaGreatDoor.Bt

namespace Go.Proofs.YtoipinnfmjaaaaaGreatDoor.Bt
open Go.RowKit

/-- The numbers below k. -/
def pre (B : Nat → Bool) (k : Nat) : List Nat := (List.range k).filter B

theorem pre_zero (B : Nat → Bool) : pre B 0 = [] := rfl
theorem pre_len (B : Nat → Bool) (k : Nat) : (pre B k).length ≤ k := count_len B k
theorem pre_els (B : Nat → Bool) : pre B 4096 = els B := rfl

theorem pre_gap {B : Nat → Bool} {k : Nat} : ∀ d, (∀ j, k ≤ j → j < k + d → B j = false) → pre B (k + d) = pre B k
  | 0, _ => rfl
  | d + 1, h => by
    have ih := pre_gap d fun j h1 h2 => h j h1 (by omega)
    have hb := h (k + d) (by omega) (by omega)
    unfold pre at *
    rw [← Nat.add_assoc, List.range_succ, List.filter_append, ih]
    simp [hb]

theorem pre_hit {B : Nat → Bool} {k m : Nat} (hk : k ≤ m) (hb : B m = true) (h : ∀ j, k ≤ j → j < m → B j = false) : pre B (m + 1) = pre B k ++ [m] := by
  obtain ⟨d, rfl⟩ : ∃ d, m = k + d := ⟨m - k, by omega⟩
  have e := pre_gap d h
  unfold pre at *
  rw [List.range_succ, List.filter_append, e]
  simp [hb]

theorem pre_end {B : Nat → Bool} {k : Nat} (hk : k ≤ 4096) (h : ∀ j, j < 4096 → k ≤ j → B j = false) : pre B k = els B := by
  obtain ⟨d, hd⟩ : ∃ d, 4096 = k + d := ⟨4096 - k, by omega⟩
  rw [← pre_els, hd]
  exact (pre_gap d fun j h1 h2 => h j (by omega) h1).symm

/-- The value of a number. -/
def iv (i : Nat) : Value := .int .i64 i

theorem lt_of_cell' {w : World} {b o : Nat} {v : Value} (h : w.cell? ⟨b, o, none⟩ = some v) : b < w.heap.size := by
  refine Classical.byContradiction fun hn => ?_
  have : w.heap[b]? = none := Array.getElem?_eq_none (by omega)
  simp [World.cell?, this] at h

theorem SetV.below {v : Value} {n : Nat} {B : Nat → Bool} {w w' : World} (h : SetV v n B w) (hb : Below w.heap.size w w') : SetV v n B w' := by
  cases h with
  | nil => exact .nil _
  | at_ h => exact .at_ (h.below hb h.inp h.ind)

theorem Tab.below {w w' : World} {m : Nat} (h : Tab w) (hb : Below m w w') (hm : 0 < m) : Tab w' := fun j hj => by
  rw [hb.cell (p := ⟨0, j, none⟩) hm]; exact h j hj

theorem Tab.pos {w : World} (h : Tab w) : 0 < w.heap.size := lt_of_cell' (h 0 (by decide))

theorem Tab.drewN {w : World} (h : Tab w) (m : Nat) : Tab (w.drewN m) := h

/-- A list's value, its cells in a block of its own; nothing that was there is written. -/
def Listed (B : Nat → Bool) (w : World) (e : Ending) (w' : World) : Prop :=
  ∃ v, e = .returned v ∧ w'.ownsRow w.heap.size 3 1 v (els B).length ((els B).map iv) ∧ Below w.heap.size w w'

theorem info_int : (Tryz.prog.info? 3).map (fun i => (i.zero, i.size, i.bytes)) = some (some (.int .i64 0), 1, 8) := by kernel_rfl

def ListInv (B : Nat → Bool) (w : World) (g : Nat) (v i : Value) (wr : World) : Prop :=
  ∃ k, k ≤ 4096 ∧ g = 4096 - k ∧ i = .int .i64 (next B (k : Int)) ∧ wr.ownsRow w.heap.size 3 1 v (pre B k).length ((pre B k).map iv) ∧ Below w.heap.size w wr

set_option maxHeartbeats 2000000 in
set_option maxRecDepth 100000 in
theorem list_any {v : Value} {n : Nat} {B : Nat → Bool} (w : World) (h : SetV v n B w) (hT : Tab w) :
    Calls Tryz.prog 32 #[v] w (Listed B w) := by
  obtain ⟨i0, hi, hz0, hz1, hz2⟩ := info_parts info_int
  have HC := Lib.hid (count_any w h)
  have HV := Lib.hid h
  have HT := Lib.hid hT
  have hl := els_len B
  clear h hT
  go_enter Tryz.func32, Tryz.ntmps32
  go_wp2_with (first | (go_at_call 60; refine HC.out.mono ?_; rintro e w' ⟨rfl, rfl⟩) | (refine wpList_make_own _ rfl _ _ 26 rfl w.heap.size 3 i0 (.int .i64 0) 1 Tryz.underlying26 hi hz0 hz1 .i64 .i64 _ (els B).length rfl rfl rfl (by rw [hz2]; omega) (by unfold maxLen; omega) (Nat.le_refl _) ?_))
  intro w1 hown hg
  have HO := Lib.hid hown
  have HB1 := Lib.hid ((Below.refl w.heap.size w).grown hg (Nat.le_refl _) (by simp))
  have HN := Lib.hid (next_any w1 (HV.out.below HB1.out) (HT.out.below HB1.out HT.out.pos) 0 (by omega))
  clear hown hg
  go_wp2_with (go_at_call 61; refine HN.out.mono ?_; rintro e w' ⟨rfl, rfl⟩)
  go_loopg [3, 4] 4096 (fun g s i wr => ListInv B w g s i wr)
  case atStart => exact ⟨0, by omega, by omega, rfl, HO.out, HB1.out⟩
  case round =>
    obtain ⟨k, hk, hg, hi4, hown, hb⟩ := hrel
    have HG := Lib.hid hg
    have HO2 := Lib.hid hown
    have HB := Lib.hid hb
    clear hg hown hb
    rcases next_or (B := B) (k : Int) with ⟨hn, hno⟩ | ⟨m, hn, hm, hkm, hbm, hno⟩
    · rw [hn] at hi4
      subst hi4
      have HE := Lib.hid (pre_end hk fun j h1 h2 => hno j h1 (by omega))
      clear hn hno
      go_wp2
      go_ret
      exact ⟨_, rfl, by rw [← HE.out]; exact HO2.out, HB.out⟩
    · rw [hn] at hi4
      subst hi4
      have HE := Lib.hid (pre_hit (k := k) (by omega) hbm fun j h1 h2 => hno j (by omega) h2)
      have hp := pre_len B k
      clear hn hno hbm
      go_wp2_with (at_builtin; refine wpList_append_own _ rfl _ _ 26 rfl w.heap.size 3 i0 (.int .i64 0) 1 8 Tryz.underlying26 hi hz0 hz1 hz2 rfl (by decide) _ _ _ rfl (HO2.out.alloc _) ⟨wr.heap.size, 0, none⟩ 1 1 [iv m] rfl rfl ?c1 ?c2 ?c3 ?c4 ?c5 ?_)
      case c1 =>
        intro j u hj
        match j, hj with
        | 0, hj => simp at hj; subst hj; simp [Addr.add, iv]
      case c2 => intro u hu; simp at hu; subst hu; rfl
      case c3 => unfold maxLen; omega
      case c4 => omega
      case c5 => have := HB.out.size; simp; omega
      intro v' w2 hown' hgrow _
      have HO3 := Lib.hid (show w2.ownsRow w.heap.size 3 1 v' (pre B (m + 1)).length ((pre B (m + 1)).map iv) by rw [HE.out]; simpa using hown')
      have HB2 : Hid (Below w.heap.size w w2) := (HB.out.alloc HB.out.size _).grown hgrow (by have := HB.out.size; simp; omega) (fun q hq => (HO2.out.lt q hq).1)
      have HN2 := Lib.hid (next_any w2 (HV.out.below HB2.out) (HT.out.below HB2.out HT.out.pos) ((m : Int) + 1) (by omega))
      clear hown' hgrow
      go_wp2_with (go_at_call 61; refine HN2.out.mono ?_; rintro e w' ⟨rfl, rfl⟩)
      go_roundg (4096 - (m + 1))
      case measure => rw [HG.out]; omega
      case rel => exact ⟨m + 1, by omega, rfl, by rw [show ((m + 1 : Nat) : Int) = (m : Int) + 1 from by omega], HO3.out, HB2.out⟩

end Go.Proofs.YtoipinnfmjaaaaaGreatDoor.Bt
