/- A part of the proof. -/
import Derived.Test.YtbajcecncgdpmaaGreatDoorPk03
import Derived.Shelf.Spec.TrailingZeros
import Derived.Test.YtbajcecncgdpmaaGreatDoorPk13
import Derived.Deep.DeepCutAuto
import Derived.StillTailTactics
import Derived.Deep.OwnRows
import Derived.Deep.Heap
set_option maxHeartbeats 4000000
set_option maxRecDepth 100000
set_option linter.unusedVariables false
namespace Go.Proofs.YtbajcecncgdpmaaGreatDoor
namespace Bt
open Go.RowKit
theorem zB1 (n : Nat) : IntKind.u64.wrap (n : Int) = ((n % 18446744073709551616 : Nat) : Int) := by rw [IntKind.wrap_u64]; omega
theorem zIv (i : Nat) : IntKind.u64.wrap (2 ^ (i % 64)) = (zB5 i : Int) := by
 have h := zBn i
 have e : ((2 : Int) ^ (i % 64)) = ((zB5 i : Nat) : Int) := by simp [zB5]
 rw [e, zB1, Nat.mod_eq_of_lt h]
theorem zG6 (i : Nat) (w : World) (hi : i <= 9223372036854775807) :
  Calls Tryz.prog 126 #[.int .i64 i] w fun e w' => e = .returned (.int .u64 (zB5 i)) /\ w = w' := by
 go_enter Tryz.func126, Tryz.ntmps126
 go_wp2
 go_ret
 refine ⟨?_, rfl⟩
 simp [zIv]
theorem zHK (y : Nat) (hy : y <= 9223372036854775807) : bits .and .i64 (y : Int) 127 = ((y % 128 : Nat) : Int) := by
 have h1 : (BitVec.ofInt 64 (y : Int)).toNat = y := by
  rw [BitVec.ofInt_natCast, BitVec.toNat_ofNat]; exact Nat.mod_eq_of_lt (by omega)
 have h2 : (BitVec.ofInt 64 (127 : Int)).toNat = 127 := rfl
 show IntKind.i64.wrap ((BitVec.ofInt 64 (y : Int) &&& BitVec.ofInt 64 (127 : Int)).toNat : Int) = _
 have e : y &&& 127 = y % 128 := Nat.and_two_pow_sub_one_eq_mod y 7
 rw [BitVec.toNat_and, h1, h2, e]
 exact IntWalk.i64_in _ (by omega)
theorem zJO (x : Nat) (hx : x < 18446744073709551616) : ∃ y1 y2 y3 y4 y5 y6 : Nat,
  IntKind.u64.wrap (bits BinOp.and IntKind.u64 ((x : Int) / 2) 6148914691236517205 + bits BinOp.and IntKind.u64 (x : Int) 6148914691236517205) = (y1 : Int) /\
  IntKind.u64.wrap (bits BinOp.and IntKind.u64 ((y1 : Int) / 4) 3689348814741910323 + bits BinOp.and IntKind.u64 (y1 : Int) 3689348814741910323) = (y2 : Int) /\
  bits BinOp.and IntKind.u64 (IntKind.u64.wrap ((y2 : Int) / 16 + (y2 : Int))) 1085102592571150095 = (y3 : Int) /\
  IntKind.u64.wrap ((y3 : Int) + (y3 : Int) / 256) = (y4 : Int) /\
  IntKind.u64.wrap ((y4 : Int) + (y4 : Int) / 65536) = (y5 : Int) /\
  IntKind.u64.wrap ((y5 : Int) + (y5 : Int) / 4294967296) = (y6 : Int) /\
  y6 <= 9223372036854775807 /\
  bits .and .i64 (y6 : Int) 127 = (vs 1 64 x : Int) := by
 obtain ⟨h0, h6, h1, h2, h3, h3', h4, h5⟩ := ones x hx
 refine ⟨o1 x, o2 (o1 x), o3 (o2 (o1 x)), o4 256 (o3 (o2 (o1 x))), o4 65536 (o4 256 (o3 (o2 (o1 x)))), o4 4294967296 (o4 65536 (o4 256 (o3 (o2 (o1 x))))), ?_, ?_, ?_, ?_, ?_, ?_, by omega, ?_⟩
 ·rw [show (x : Int) / 2 = ((x / 2 : Nat) : Int) from by omega, show (6148914691236517205 : Int) = ((6148914691236517205 : Nat) : Int) from rfl, bits_and_u64_nat _ _ (by omega) (by omega), bits_and_u64_nat _ _ hx (by omega), ← Int.natCast_add, zB1]
  exact congrArg _ (Nat.mod_eq_of_lt h1)
 ·generalize o1 x = y at *
  rw [show (y : Int) / 4 = ((y / 4 : Nat) : Int) from by omega, show (3689348814741910323 : Int) = ((3689348814741910323 : Nat) : Int) from rfl, bits_and_u64_nat _ _ (by omega) (by omega), bits_and_u64_nat _ _ h1 (by omega), ← Int.natCast_add, zB1]
  exact congrArg _ (Nat.mod_eq_of_lt h2)
 ·generalize o2 (o1 x) = y at *
  rw [show (y : Int) / 16 + (y : Int) = ((y / 16 + y : Nat) : Int) from by omega, zB1, Nat.mod_eq_of_lt h3, show (1085102592571150095 : Int) = ((1085102592571150095 : Nat) : Int) from rfl, bits_and_u64_nat _ _ h3 (by omega)]
  rfl
 ·generalize o3 (o2 (o1 x)) = y at *
  rw [show (y : Int) + (y : Int) / 256 = ((o4 256 y : Nat) : Int) from by unfold o4; omega, zB1, Nat.mod_eq_of_lt (by omega)]
 ·generalize o4 256 (o3 (o2 (o1 x))) = y at *
  rw [show (y : Int) + (y : Int) / 65536 = ((o4 65536 y : Nat) : Int) from by unfold o4; omega, zB1, Nat.mod_eq_of_lt (by omega)]
 ·generalize o4 65536 (o4 256 (o3 (o2 (o1 x)))) = y at *
  rw [show (y : Int) + (y : Int) / 4294967296 = ((o4 4294967296 y : Nat) : Int) from by unfold o4; omega, zB1, Nat.mod_eq_of_lt (by omega)]
 ·rw [zHK _ (by omega), h0]
theorem zN6 (x : Nat) (w : World) (hx : x < 18446744073709551616) :
  Calls Tryz.prog 127 #[.int .u64 x] w fun e w' => e = .returned (.int .i64 (vs 1 64 x)) /\ w = w' := by
 obtain ⟨y1, y2, y3, y4, y5, y6, e1, e2, e3, e4, e5, e6, l6, e7⟩ := zJO x hx
 clear hx
 go_enter Tryz.func127, Tryz.ntmps127
 go_wp2
 go_ret
 exact ⟨rfl, rfl⟩
def Tab (w : World) : Prop := TabAt 0 Lib.deBruijn64tab w
theorem zQr (x k idx : Nat) (w : World) (hx0 : ((x : Int) == 0) = false)
  (key : IntKind.u64.wrap (bits BinOp.and IntKind.u64 (x : Int) (IntKind.u64.wrap (-(x : Int))) * 285870213051353865) / 288230376151711744 = (idx : Int))
  (hi : idx < 64) (hk : k < 64) (hcell : w.cell? ⟨0, idx, none⟩ = some (.int .u8 k)) :
  Calls Tryz.prog 128 #[.int .u64 x] w fun e w' => e = .returned (.int .i64 k) /\ w = w' := by
 go_enter Tryz.func128, Tryz.ntmps128
 go_wp2_with (simp only [key])
 go_ret
 exact ⟨rfl, rfl⟩
theorem zRw (x : Nat) (hx0 : x ≠ 0) (hx : x < 18446744073709551616) (w : World) (hT : Tab w) :
  Calls Tryz.prog 128 #[.int .u64 x] w fun e w' => e = .returned (.int .i64 (Lib.ctz 64 x)) /\ w = w' := by
 obtain ⟨hlow, hk⟩ := Lib.lowest_bit 64 x hx0 hx
 obtain ⟨hi, htab⟩ := Lib.deBruijn64_at _ hk
 have hcell := hT _ hi
 rw [htab] at hcell
 exact zQr x _ _ w (by simp; omega) (tz64_key x _ hx hx0 hlow) hi hk hcell
end Bt
namespace Bt
open Go.RowKit
def sz (n : Nat) : Nat := (n + 63) / 64
structure SetAt (p d n : Nat) (B : Nat -> Bool) (w : World) : Prop where
 room : w.cell? ⟨p, 0, none⟩ = some (.int .i64 n)
 words : w.cell? ⟨p, 1, none⟩ = some (.slice (some ⟨d, 0, none⟩) (sz n) (sz n))
 holds : ∀ k, k < sz n -> w.cell? ⟨d, k, none⟩ = some (.int .u64 (wd B k))
 free : ∀ k, k < sz n -> w.frozen? ⟨d, k, none⟩ = false
 apart : p ≠ d
 inp : p < w.heap.size
 ind : d < w.heap.size
 upto : Upto B n
theorem SetAt.keep {p d n : Nat} {B : Nat -> Bool} {w w' : World} (h : SetAt p d n B w) (hs : w.heap.size <= w'.heap.size) (hp : w'.heap[p]? = w.heap[p]?) (hd : w'.heap[d]? = w.heap[d]?) : SetAt p d n B w' :=
 ⟨(World.cell?_of_block (a := ⟨p, 0, none⟩) hp).trans h.room, (World.cell?_of_block (a := ⟨p, 1, none⟩) hp).trans h.words,
  fun k hk => (World.cell?_of_block (a := ⟨d, k, none⟩) hd).trans (h.holds k hk), fun k hk => (World.frozen?_of_block (a := ⟨d, k, none⟩) hd).trans (h.free k hk),
  h.apart, Nat.lt_of_lt_of_le h.inp hs, Nat.lt_of_lt_of_le h.ind hs, h.upto⟩
inductive SetV : Value -> Nat -> (Nat -> Bool) -> World -> Prop
 | nil (w : World) : SetV (.pointer none) 0 (fun _ => false) w
 | at_ {p d n : Nat} {B : Nat -> Bool} {w : World} (h : SetAt p d n B w) : SetV (.pointer (some ⟨p, 0, none⟩)) n B w
theorem SetV.upto {v : Value} {n : Nat} {B : Nat -> Bool} {w : World} (h : SetV v n B w) : Upto B n := by
 cases h with
 | nil => exact .none
 | at_ h => exact h.upto
theorem SetV.keep {v : Value} {n : Nat} {B : Nat -> Bool} {w w' : World} (h : SetV v n B w) (hs : w'.heap = w.heap) : SetV v n B w' := by
 cases h with
 | nil => exact .nil _
 | at_ h => exact .at_ (h.keep (by rw [hs]; exact Nat.le_refl _) (by rw [hs]) (by rw [hs]))
theorem SetV.drew {v : Value} {n : Nat} {B : Nat -> Bool} {w : World} (h : SetV v n B w) (m : Nat) : SetV v n B (w.drewN m) := h.keep (by rfl)
theorem zFt {n : Nat} (h : n <= 4096) : sz n <= 64 := by unfold sz; omega
theorem zOT {v : Value} {n : Nat} {B : Nat -> Bool} (w : World) (h : SetV v n B w) :
  Calls Tryz.prog 153 #[v] w fun e w' => e = .returned (.int .i64 n) /\ w = w' := by
 cases h with
 | nil =>
  go_enter Tryz.func153, Tryz.ntmps153
  go_wp2
  go_ret
  exact ⟨rfl, rfl⟩
 | @at_ p d n B w h =>
  have h0 := h.room
  clear h
  go_enter Tryz.func153, Tryz.ntmps153
  go_wp2
  go_ret
  exact ⟨rfl, rfl⟩
theorem zCQ {v : Value} {n : Nat} {B : Nat -> Bool} (w : World) (h : SetV v n B w) :
  Calls Tryz.prog 121 #[v] w fun e w' => e = .returned (.int .i64 (sz n)) /\ w = w' := by
 cases h with
 | nil =>
  go_enter Tryz.func121, Tryz.ntmps121
  go_wp2
  go_ret
  exact ⟨rfl, rfl⟩
 | @at_ p d n B w h =>
  have h0 := h.words
  clear h
  go_enter Tryz.func121, Tryz.ntmps121
  go_wp2
  go_ret
  exact ⟨rfl, rfl⟩
theorem zR4 {B : Nat -> Bool} {n k : Nat} (h : Upto B n) (hk : ¬ k < sz n) : wd B k = 0 :=
 zCK.2 fun j _ => h.2 _ (by unfold sz at hk; omega)
theorem zDj {v : Value} {n : Nat} {B : Nat -> Bool} (w : World) (h : SetV v n B w) (k : Nat) :
  Calls Tryz.prog 122 #[v, .int .i64 k] w fun e w' => e = .returned (.int .u64 (wd B k)) /\ w = w' := by
 have hsz := zCQ w h
 have HSZ := zSt hsz
 clear hsz
 by_cases hlt : k < sz n
 ·cases h with
  | nil => simp [sz] at hlt
  | @at_ p d n B w h =>
   have h0 := h.words
   have h1 := h.holds k hlt
   have hb : sz n <= 64 := zFt h.upto.1
   clear h
   go_enter Tryz.func122, Tryz.ntmps122
   go_wp2_with (go_at_call 121; refine HSZ.out.mono ?_; rintro e w' ⟨rfl, rfl⟩)
   go_ret
   exact ⟨rfl, rfl⟩
 ·have h0 := zSt (zR4 h.upto hlt)
  clear h
  go_enter Tryz.func122, Tryz.ntmps122
  go_wp2_with (go_at_call 121; refine HSZ.out.mono ?_; rintro e w' ⟨rfl, rfl⟩)
  go_ret
  exact ⟨by rw [h0.out]; rfl, rfl⟩
def fit (n : Nat) (i : Int) : Bool := decide (0 <= i) && decide (i < (n : Int))
theorem zDY {v : Value} {n : Nat} {B : Nat -> Bool} (w : World) (h : SetV v n B w) (i : Int) :
  Calls Tryz.prog 124 #[v, .int .i64 i] w fun e w' => e = .returned (.bool (fit n i)) /\ w = w' := by
 have HR := zSt (zOT w h)
 clear h
 by_cases h0 : 0 <= i
 ·by_cases h1 : i < (n : Int)
  ·have HF := zSt (show fit n i = true by simp [fit, h0, h1])
   go_enter Tryz.func124, Tryz.ntmps124
   go_wp2_with (go_at_call 153; refine HR.out.mono ?_; rintro e w' ⟨rfl, rfl⟩)
   go_ret
   exact ⟨by rw [HF.out]; first | rfl | (simp; omega), rfl⟩
  ·have HF := zSt (show fit n i = false by simp [fit, h0, h1])
   go_enter Tryz.func124, Tryz.ntmps124
   go_wp2_with (go_at_call 153; refine HR.out.mono ?_; rintro e w' ⟨rfl, rfl⟩)
   go_ret
   exact ⟨by rw [HF.out]; first | rfl | (simp; omega), rfl⟩
 ·have HF := zSt (show fit n i = false by simp [fit, h0])
  go_enter Tryz.func124, Tryz.ntmps124
  go_wp2_with (go_at_call 153; refine HR.out.mono ?_; rintro e w' ⟨rfl, rfl⟩)
  go_ret
  exact ⟨by rw [HF.out]; rfl, rfl⟩
theorem flip {P : Program} {f : FuncId} {args : Array Value} {w : World} {v : Value} (h : Calls P f args w fun e w' => e = .returned v /\ w = w') : Calls P f args w fun e w' => e = .returned v /\ w' = w :=
 h.mono fun _ _ ⟨h1, h2⟩ => ⟨h1, h2.symm⟩
theorem zKc {n : Nat} {i : Int} (h : fit n i = true) : ∃ j : Nat, i = (j : Int) /\ j < n := by
 simp only [fit, Bool.and_eq_true, decide_eq_true_eq] at h
 exact ⟨i.toNat, by omega, by omega⟩
theorem zPw {n : Nat} {B : Nat -> Bool} (hB : Upto B n) {i : Int} (h : fit n i = false) : has B i = false := by
 simp only [fit, Bool.and_eq_false_iff, decide_eq_false_iff_not] at h
 unfold has
 by_cases h0 : 0 <= i
 ·rcases h with h | h
  ·exact absurd h0 h
  ·rw [hB.2 _ (by omega)]; simp
 ·simp [h0]
theorem zKq (B : Nat -> Bool) (j : Nat) : has B (j : Int) = B j := by simp [has]
theorem zMu (B : Nat -> Bool) (j : Nat) : ∃ m : Nat, bits BinOp.and IntKind.u64 (wd B (j / 64) : Int) (zB5 j : Int) = (m : Int) /\ ((m : Int) != 0) = B j := by
 refine ⟨_, bits_and_u64_nat _ _ (zB0 _ _) (zBn _), ?_⟩
 have h := zNL B j
 cases hb : B j with
 | false =>
  rw [hb] at h
  have : wd B (j / 64) &&& zB5 j = 0 := by
   refine Classical.byContradiction fun hn => ?_
   exact absurd (h.1 hn) (by simp)
  rw [this]; rfl
 | true =>
  have := h.2 hb
  rw [bne_iff_ne]; omega
def Draws (v : Value) (w : World) (e : Ending) (w' : World) : Prop := e = .returned v /\ ∃ m, w' = w.drewN m
theorem zKp {v : Value} {n : Nat} {B : Nat -> Bool} (w : World) (h : SetV v n B w) (i : Int) (hi : i <= 9223372036854775807) :
  Calls Tryz.prog 125 #[v, .int .i64 i] w (Draws (.bool (has B i)) w) := by
 have HF := zSt (fun m => flip (zDY (w.drewN m) (h.drew m) i))
 cases hf : fit n i with
 | false =>
  have HH := zSt (zPw h.upto hf)
  rw [hf] at HF
  clear h hf
  go_enter Tryz.func125, Tryz.ntmps125
  go_wp2_with fail
  go_quiet ((go_at_call 124; exact Calls.quiet_of_same (HF.out _)))
  go_wp2
  go_ret
  exact ⟨by rw [HH.out]; rfl, nq, rfl⟩
 | true =>
  obtain ⟨j, rfl, hj⟩ := zKc hf
  cases h with
  | nil => omega
  | @at_ p d n B w h =>
   rw [hf] at HF
   have h0 := h.words
   have hlt : j / 64 < sz n := by unfold sz; omega
   have h1 := h.holds (j / 64) hlt
   have hb : sz n <= 64 := zFt h.upto.1
   have h2 := h.upto.1
   have HB := zSt (fun m => flip (zG6 j (w.drewN m) (by omega)))
   obtain ⟨m, e1, e2⟩ := zMu B j
   rw [zKq, ← e2]
   clear h hf e2
   go_enter Tryz.func125, Tryz.ntmps125
   go_wp2_with fail
   go_quiet (first | (go_at_call 124; exact Calls.quiet_of_same (HF.out _)) | (go_at_call 126; exact Calls.quiet_of_same (HB.out _)))
   go_wp2
   go_ret
   exact ⟨rfl, nq, rfl⟩
end Bt
namespace Bt
open Go.RowKit
def cnt (B : Nat -> Bool) (k : Nat) : Nat := ((List.range (64 * k)).filter B).length
theorem zM4 (B : Nat -> Bool) (k : Nat) : cnt B (k + 1) = cnt B k + vs 1 64 (wd B k) := zI1 B k
theorem zM5 (B : Nat -> Bool) : cnt B 0 = 0 := by simp [cnt]
theorem zRD (B : Nat -> Bool) (k : Nat) : cnt B k <= 64 * k := zGN B _
theorem zPc {B : Nat -> Bool} {n : Nat} (h : Upto B n) : cnt B (sz n) = (els B).length := zKU h (by unfold sz; omega)
theorem zKT {v : Value} {n : Nat} {B : Nat -> Bool} (w : World) (h : SetV v n B w) :
  Calls Tryz.prog 95 #[v] w fun e w' => e = .returned (.int .i64 (els B).length) /\ w = w' := by
 have HS := zSt (zCQ w h)
 have HW := zSt (zDj w h)
 have HO := zSt (fun k => zN6 (wd B k) w (zB0 B k))
 have HE := zSt (zPc h.upto)
 have hb : sz n <= 64 := zFt h.upto.1
 clear h
 go_enter Tryz.func95, Tryz.ntmps95
 go_wp2_with (go_at_call 121; refine HS.out.mono ?_; rintro e w' ⟨rfl, rfl⟩)
 go_loop [3, 7] (fun c i => ∃ k : Nat, k <= sz n /\ i = .int .i64 k /\ c = .int .i64 (cnt B k)) (fun _ i => sz n - (intOf i).toNat)
 case atStart => exact ⟨0, Nat.zero_le _, rfl, by rw [zM5]; rfl⟩
 case round =>
  obtain ⟨k, hk, rfl, rfl⟩ := hrel
  have hc := zRD B k
  have hc0 : (0 : Int) <= (cnt B k : Int) := by omega
  by_cases hlt : k < sz n
  ·have hv := zSs 64 (wd B k)
   have HC := zSt (zM4 B k)
   go_wp2_with (first | (go_at_call 122; refine (HW.out _).mono ?_; rintro e w' ⟨rfl, rfl⟩) | (go_at_call 127; refine (HO.out _).mono ?_; rintro e w' ⟨rfl, rfl⟩))
   go_round
   case rel => exact ⟨k + 1, by omega, by go_num, by rw [HC.out]; go_num⟩
   case measure => simp [intOf]; omega
  ·have he : k = sz n := by omega
   have HE2 : Hid (cnt B k = (els B).length) := by rw [he]; exact HE.out
   clear he
   go_wp2
   go_ret
   exact ⟨by rw [HE2.out]; rfl, rfl⟩
def Bare (B : Nat -> Bool) (i k : Nat) : Prop := ∀ j, i <= j -> j < 64 * k -> B j = false
def below (i k : Nat) : Nat := if k = i / 64 then zB5 i - 1 else 0
theorem zMt (i k : Nat) : below i k < 18446744073709551616 := by
 have := zBn i
 unfold below
 split <;> omega
theorem zIu (B : Nat -> Bool) (i k : Nat) (h : i / 64 <= k) : bits BinOp.andNot IntKind.u64 (wd B k : Int) (below i k : Int) = (wd (from_ B i) k : Int) := by
 have hb := zMt i k
 have h1 := zB0 B k
 rw [u64_andNot _ _ (by omega) (by omega) (by omega) (by omega), Int.toNat_natCast, Int.toNat_natCast]
 congr 1
 unfold below
 split
 ·rename_i e; rw [e]; exact zG4 B i
 ·rw [zG5 B i k (by omega), Nat.sub_zero]
  apply Nat.eq_of_testBit_eq
  intro j
  rw [Nat.testBit_and, zBa, show 18446744073709551615 = 2 ^ 64 - 1 from rfl, Nat.testBit_two_pow_sub_one]
  by_cases hj : j < 64 <;> simp [hj]
theorem zKC {B : Nat -> Bool} {i k : Nat} (h : Bare B i k) (hz : wd (from_ B i) k = 0) : Bare B i (k + 1) := by
 intro j hij hj
 by_cases hlt : j < 64 * k
 ·exact h j hij hlt
 ·have := zCK.1 hz (j - 64 * k) (by omega)
  rw [show 64 * k + (j - 64 * k) = j from by omega] at this
  simpa [from_, hij] using this
theorem zIr {B : Nat -> Bool} {n i k : Nat} (hB : Upto B n) (h : Bare B i k) (hz : wd (from_ B i) k ≠ 0) :
  Lib.ctz 64 (wd (from_ B i) k) < 64 /\ next B (i : Int) = ((k * 64 + Lib.ctz 64 (wd (from_ B i) k) : Nat) : Int) := by
 obtain ⟨hc, h1, h2⟩ := zPd hz (zB0 _ _)
 refine ⟨hc, ?_⟩
 generalize Lib.ctz 64 (wd (from_ B i) k) = c at *
 rw [zBa] at h1
 have e : k * 64 + c = 64 * k + c := by omega
 simp only [from_, Bool.and_eq_true, decide_eq_true_eq] at h1
 rw [e]
 refine zNw hB _ (by omega) h1.2.1 fun j hij hj => ?_
 by_cases hlt : j < 64 * k
 ·exact h j (by omega) hlt
 ·have := h2 (j - 64 * k) (by omega)
  rw [zBa, show 64 * k + (j - 64 * k) = j from by omega] at this
  have h3 : j - 64 * k < 64 := by omega
  have h4 : i <= j := by omega
  simpa [from_, h3, h4] using this
theorem zMq {B : Nat -> Bool} {n i k : Nat} (hB : Upto B n) (hk : sz n <= k) (h : Bare B i k) : next B (i : Int) = -1 :=
 zQG _ fun j hij => by
  by_cases hlt : j < 64 * k
  ·exact h j (by omega) hlt
  ·exact hB.2 j (by unfold sz at hk; omega)
theorem zJs (i : Nat) : IntKind.u64.wrap ((zB5 i : Int) - 1) = (below i (i / 64) : Int) := by
 have := zBn i
 have := zF9 i
 rw [IntKind.wrap_u64]
 simp only [below, if_true]
 omega
theorem zIt (i k : Nat) (h : i / 64 <= k) : below i (k + 1) = 0 := by
 unfold below
 rw [if_neg (by omega)]
theorem zNv {v : Value} {n : Nat} {B : Nat -> Bool} (w : World) (h : SetV v n B w) (hT : Tab w) (f : Int) (i : Nat) (hf : max f 0 = (i : Int)) (hi : i <= 9223372036854775807) :
  Calls Tryz.prog 96 #[v, .int .i64 f] w fun e w' => e = .returned (.int .i64 (next B (i : Int))) /\ w = w' := by
 have HS := zSt (zCQ w h)
 have HW := zSt (zDj w h)
 have HT := zSt hT
 have HU := zSt h.upto
 have HB := zSt (zG6 i w hi)
 have hb : sz n <= 64 := zFt h.upto.1
 have hw := zJs i
 clear h hT
 have HF := zSt hf
 clear hf
 go_enter Tryz.func96, Tryz.ntmps96
 go_upto_region 1 with (fail)
 go_cut [1] (fun s1 wx => s1 = .int .i64 (i : Int) /\ w = wx)
 case first =>
  by_cases hneg : f < 0
  ·have HI := zSt (show (i : Int) = 0 by have := HF.out; omega)
   go_wp2
   go_meet
   case rel => exact ⟨by rw [HI.out], rfl⟩
  ·have HI := zSt (show (i : Int) = f by have := HF.out; omega)
   go_wp2
   go_meet
   case rel => exact ⟨by rw [HI.out], rfl⟩
 case rest =>
  obtain ⟨rfl, rfl⟩ := hcut
  go_wp2_with (go_at_call 126; refine HB.out.mono ?_; rintro e w' ⟨rfl, rfl⟩)
  clear hw
  go_loop [5, 6] (fun b s => ∃ k : Nat, i / 64 <= k /\ s = .int .i64 k /\ b = .int .u64 (below i k) /\ Bare B i k) (fun _ s => sz n - (intOf s).toNat)
  case atStart => exact ⟨i / 64, Nat.le_refl _, by rw [show ((i / 64 : Nat) : Int) = (i : Int) / 64 from by omega], rfl, fun j hij hj => by omega⟩
  case round =>
   obtain ⟨k, hk, rfl, rfl, ha⟩ := hrel
   have HA := zSt ha
   clear ha
   by_cases hlt : k < sz n
   ·have HE := zIu B i k hk
    by_cases hz : wd (from_ B i) k = 0
    ·have HN := zSt (zKC HA.out hz)
     have HL := zSt (zIt i k hk)
     rw [hz] at HE
     clear hz
     go_wp2_with (first | (go_at_call 121; refine HS.out.mono ?_; rintro e w' ⟨rfl, rfl⟩) | (go_at_call 122; refine (HW.out _).mono ?_; rintro e w' ⟨rfl, rfl⟩))
     go_round
     case rel => exact ⟨k + 1, by omega, by go_num, by rw [HL.out]; rfl, HN.out⟩
     case measure => simp [intOf]; omega
    ·obtain ⟨hc, hn⟩ := zIr HU.out HA.out hz
     have HN := zSt hn
     have hne : ((wd (from_ B i) k : Int) != 0) = true := by rw [bne_iff_ne]; omega
     have HZ := zSt (zRw _ hz (zB0 _ _) w HT.out)
     clear hz hn
     generalize Lib.ctz 64 (wd (from_ B i) k) = c at *
     generalize wd (from_ B i) k = z at *
     go_wp2_with (first | (go_at_call 121; refine HS.out.mono ?_; rintro e w' ⟨rfl, rfl⟩) | (go_at_call 122; refine (HW.out _).mono ?_; rintro e w' ⟨rfl, rfl⟩) | (go_at_call 128; refine HZ.out.mono ?_; rintro e w' ⟨rfl, rfl⟩))
     go_ret
     exact ⟨by rw [HN.out]; simp, rfl⟩
   ·have HN := zSt (zMq HU.out (by omega) HA.out)
    go_wp2_with (go_at_call 121; refine HS.out.mono ?_; rintro e w' ⟨rfl, rfl⟩)
    go_ret
    exact ⟨by rw [HN.out]; rfl, rfl⟩
theorem zIP {v : Value} {n : Nat} {B : Nat -> Bool} (w : World) (h : SetV v n B w) (hT : Tab w) (f : Int) (hf : f <= 9223372036854775807) :
  Calls Tryz.prog 96 #[v, .int .i64 f] w fun e w' => e = .returned (.int .i64 (next B f)) /\ w = w' := by
 have e : max f 0 = ((max f 0).toNat : Int) := by omega
 have := zNv w h hT f (max f 0).toNat e (by omega)
 rw [← e, zNu] at this
 exact this
end Bt
namespace Bt
open Go.RowKit
theorem zNU : (Tryz.prog.info? 164).map (fun i => (i.zero, i.size, i.bytes)) = some (some (.int .u64 0), 1, 8) := by kernel_rfl
theorem zJG (c : Nat) (hc : c <= 4096) (w : World) :
  (Instr.makeSlice 166 (.int .i64 (((c : Int) + 64 - 1) / 64)) (.int .i64 (((c : Int) + 64 - 1) / 64))).run Tryz.prog w = .ok (.slice (some ⟨w.heap.size, 0, none⟩) (sz c) (sz c)) (w.alloc (.cells (madeCells #[.int .u64 0] (sz c)) 164)) := by
 have e : ((c : Int) + 64 - 1) / 64 = ((sz c : Nat) : Int) := by unfold sz; omega
 have := zFt hc
 rw [e]
 exact run_make_row' 166 164 (.int .u64 0) 8 Tryz.underlying166 zNU rfl .i64 .i64 (sz c) (by omega) (by omega) w
theorem zLf (k : Nat) : wd (fun _ => false) k = 0 := zCK.2 fun _ _ => rfl
theorem zCx (n k : Nat) (h : k < n) (z : Value) : (madeCells #[z] n)[k]? = some z := by
 simp [madeCells, h, Nat.mod_one]
def cap (n : Int) : Nat := (min (max n 0) 4096).toNat
theorem zRC (n : Int) : cap n <= 4096 := by unfold cap; omega
def Made (n : Nat) (w : World) (e : Ending) (w' : World) : Prop :=
 ∃ p d, e = .returned (.pointer (some ⟨p, 0, none⟩)) /\ w.heap.size <= p /\ w.heap.size <= d /\ SetAt p d n (fun _ => false) w' /\ Below w.heap.size w w' /\ w'.heap[d]? = some (.cells (madeCells #[.int .u64 0] (sz n)) 164 (0, 0))
theorem zFj (n : Int) (w : World) :
  Calls Tryz.prog 93 #[.int .i64 n] w (Made (cap n) w) := by
 have hc := zRC n
 go_enter Tryz.func93, Tryz.ntmps93
 go_upto_region 1 with (fail)
 go_cut [0] (fun s1 wx => s1 = .int .i64 (cap n : Int) /\ w = wx)
 case first =>
  by_cases hneg : n < 0
  ·have HI := zSt (show (cap n : Int) = 0 by unfold cap; omega)
   go_wp2
   go_meet
   case rel => exact ⟨by rw [HI.out], rfl⟩
  ·by_cases hbig : 4096 < n
   ·have HI := zSt (show (cap n : Int) = 4096 by unfold cap; omega)
    go_wp2
    go_meet
    case rel => exact ⟨by rw [HI.out], rfl⟩
   ·have HI := zSt (show (cap n : Int) = n by unfold cap; omega)
    go_wp2
    go_meet
    case rel => exact ⟨by rw [HI.out], rfl⟩
 case rest =>
  obtain ⟨rfl, rfl⟩ := hcut
  generalize cap n = c at *
  have hmk := zJG c hc
  go_wp2
  go_ret
  refine ⟨w.heap.size + 1, w.heap.size, rfl, by omega, Nat.le_refl _, ⟨by simp, by simp, fun k hk => ?_, fun k hk => ?_, by omega, by simp, by simp; omega, .empty hc⟩, ((Below.refl _ _).alloc (Nat.le_refl _) _).alloc (by simp) _, ?_⟩
  ·rw [zLf]
   simp [zCx _ _ hk]
  ·simp
  ·rw [Below.heap_alloc _ _ _ (by simp)]; exact Deep.blk_alloc_new _ _
structure Keeps (d : Nat) (w w' : World) : Prop where
 os : w'.os = w.os
 tape : w'.tape = w.tape
 output : w'.output = w.output
 size : w.heap.size <= w'.heap.size
 block : ∀ k, k < w.heap.size -> k ≠ d -> w'.heap[k]? = w.heap[k]?
theorem Keeps.refl (d : Nat) (w : World) : Keeps d w w := ⟨rfl, rfl, rfl, Nat.le_refl _, fun _ _ _ => rfl⟩
theorem Keeps.trans {d : Nat} {a b c : World} (h : Keeps d a b) (k : Keeps d b c) : Keeps d a c :=
 ⟨k.os.trans h.os, k.tape.trans h.tape, k.output.trans h.output, Nat.le_trans h.size k.size, fun i hi hd => (k.block i (Nat.lt_of_lt_of_le hi h.size) hd).trans (h.block i hi hd)⟩
theorem Keeps.drewN {d : Nat} {a w : World} (h : Keeps d a w) (m : Nat) : Keeps d a (w.drewN m) := ⟨h.os, h.tape, h.output, h.size, h.block⟩
theorem Keeps.setCell {d : Nat} {a w : World} (h : Keeps d a w) (k : Nat) (u : Value) : Keeps d a (w.setCell ⟨d, k, none⟩ u) :=
 h.trans ⟨rfl, rfl, rfl, by simp [World.setCell], fun i _ hd => Below.heap_setCell _ _ _ _ (by simpa using hd)⟩
theorem Keeps.below {d m : Nat} {a w : World} (h : Keeps d a w) (hm : m <= d) (hs : m <= a.heap.size) : Below m a w :=
 ⟨h.os, h.tape, h.output, h.size, fun i hi => h.block i (by omega) (by omega)⟩
theorem SetAt.keeps {p d n b : Nat} {B : Nat -> Bool} {w w' : World} (h : SetAt p d n B w) (k : Keeps b w w') (hp : p ≠ b) (hd : d ≠ b) : SetAt p d n B w' :=
 h.keep k.size (k.block _ h.inp hp) (k.block _ h.ind hd)
theorem SetAt.below {p d n m : Nat} {B : Nat -> Bool} {w w' : World} (h : SetAt p d n B w) (k : Below m w w') (hp : p < m) (hd : d < m) : SetAt p d n B w' :=
 h.keep k.size (k.block _ hp) (k.block _ hd)
theorem SetAt.drewN {p d n : Nat} {B : Nat -> Bool} {w : World} (h : SetAt p d n B w) (m : Nat) : SetAt p d n B (w.drewN m) :=
 h.keep (Nat.le_refl _) rfl rfl
theorem SetAt.store {p d n k : Nat} {B B' : Nat -> Bool} {w : World} (h : SetAt p d n B w) (hk : k < sz n) (hB : Upto B' n) (ho : ∀ i, i ≠ k -> wd B' i = wd B i) : SetAt p d n B' (w.setCell ⟨d, k, none⟩ (.int .u64 (wd B' k))) := by
 refine ⟨?_, ?_, fun i hi => ?_, fun i hi => ?_, h.apart, by simpa [World.setCell] using h.inp, by simpa [World.setCell] using h.ind, hB⟩
 ·rw [World.cell?_setCell_other _ _ _ _ (by intro e; exact h.apart (congrArg Addr.block e).symm)]; exact h.room
 ·rw [World.cell?_setCell_other _ _ _ _ (by intro e; exact h.apart (congrArg Addr.block e).symm)]; exact h.words
 ·by_cases e : i = k
  ·subst e
   exact World.cell?_setCell_same _ _ _ (h.holds i hi)
  ·rw [World.cell?_setCell_other _ _ _ _ (by intro e2; exact e (congrArg Addr.off e2).symm), ho i e]; exact h.holds i hi
 ·rw [World.frozen?_setCell]; exact h.free i hi
def Wrote (r : Bool) (p d n : Nat) (B : Nat -> Bool) (w : World) (e : Ending) (w' : World) : Prop := e = .returned (.bool r) /\ SetAt p d n B w' /\ Keeps d w w'
theorem zMv (B : Nat -> Bool) (j : Nat) : bits BinOp.or IntKind.u64 (wd B (j / 64) : Int) (zB5 j : Int) = (wd (put B j) (j / 64) : Int) := by
 rw [bits_or_u64_nat _ _ (zB0 _ _) (zBn _), zOL]
theorem zCC {p d n : Nat} {B : Nat -> Bool} (w : World) (h : SetAt p d n B w) (i : Int) (hi : i <= 9223372036854775807) :
  Calls Tryz.prog 94 #[.pointer (some ⟨p, 0, none⟩), .int .i64 i] w (Wrote (putR B n i) p d n (putI B n i) w) := by
 have HF := zSt (zDY w (.at_ h) i)
 have HH := zSt (zKp w (.at_ h) i hi)
 cases hf : fit n i with
 | false =>
  have e1 : putR B n i = false := by simp only [fit] at hf; simp [putR, hf]
  have e2 : putI B n i = B := by
   unfold putI
   rw [if_neg]
   intro hc
   simp [fit, hc.1, hc.2] at hf
  rw [e1, e2]
  rw [hf] at HF
  have HA := zSt h
  clear h hf e1 e2
  go_enter Tryz.func94, Tryz.ntmps94
  go_wp2_with (go_at_call 124; refine HF.out.mono ?_; rintro e w' ⟨rfl, rfl⟩)
  go_ret
  exact ⟨rfl, HA.out, .refl _ _⟩
 | true =>
  obtain ⟨j, rfl, hj⟩ := zKc hf
  rw [hf] at HF
  rw [zKq] at HH
  cases hb : B j with
  | true =>
   have e1 : putR B n (j : Int) = false := by simp [putR, hb]
   have e2 : putI B n (j : Int) = B := by
    unfold putI
    split
    ·exact zOJ hb
    ·rfl
   rw [e1, e2]
   rw [hb] at HH
   have HA := zSt h
   clear h hf e1 e2 hb
   go_enter Tryz.func94, Tryz.ntmps94
   go_wp2_with (first | (go_at_call 124; refine HF.out.mono ?_; rintro e w' ⟨rfl, rfl⟩) | (go_at_call 125; refine HH.out.mono ?_; rintro e w' ⟨rfl, m, rfl⟩))
   go_ret
   exact ⟨rfl, HA.out.drewN _, (Keeps.refl _ _).drewN _⟩
  | false =>
   have e1 : putR B n (j : Int) = true := by simp [putR, hb, hj]
   have e2 : putI B n (j : Int) = put B j := by
    unfold putI
    rw [if_pos (by omega)]
    rfl
   rw [e1, e2]
   rw [hb] at HH
   have HA := zSt h
   have hlt : j / 64 < sz n := by unfold sz; omega
   have hs : sz n <= 64 := zFt h.upto.1
   have h2 := h.upto.1
   have HE := zSt (zMv B j)
   clear h hf e1 e2 hb
   go_enter Tryz.func94, Tryz.ntmps94
   go_wp2_with (first | (go_at_call 124; refine HF.out.mono ?_; rintro e w' ⟨rfl, rfl⟩) | (go_at_call 125; refine HH.out.mono ?_; rintro e w' ⟨rfl, m, rfl⟩))
   have HA2 := zSt (HA.out.drewN m)
   have HK2 := zSt ((Keeps.refl d w).drewN m)
   clear HA HF HH
   generalize w.drewN m = w2 at *
   have c0 := HA2.out.words
   have c1 := HA2.out.holds _ hlt
   have c2 := HA2.out.free _ hlt
   have HB := zSt (flip (zG6 j w2.drew (by omega)))
   have he := HE.out
   have q1 : IntKind.i64.wrap ((j : Int) / 64) = (j : Int) / 64 := IntWalk.i64_in _ (by omega)
   have q2 : (0 : Int) <= (j : Int) / 64 := by omega
   have q3 : (j : Int) / 64 < (sz n : Int) := by omega
   have q4 : ((j : Int) / 64).toNat = j / 64 := by omega
   go_still_tail 12, (by kernel_rfl)
   still_call (HB.out)
   repeat still_step
   refine wpStill_nil ?_
   change wpList _ _ _ _ _ w2.drew
   have HS := zSt ((HA2.out.drewN 1).store hlt (HA2.out.upto.put hj) (fun i hi => zAk B j i hi))
   have HK := zSt ((HK2.out.drewN 1).setCell (j / 64) (.int .u64 (wd (put B j) (j / 64))))
   clear q1 q2 q3 q4 he HB HE HA2 HK2
   go_wp2
   go_ret
   exact ⟨rfl, HS.out, HK.out⟩
