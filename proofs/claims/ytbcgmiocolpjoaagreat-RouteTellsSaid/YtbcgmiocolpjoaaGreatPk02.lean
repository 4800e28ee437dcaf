/- A part of the proof. -/
import Derived.Test.YtbcgmiocolpjoaaGreatRows
import Derived.WalkKit
import Derived.ProofKit
import Derived.Below
import Derived.Deep.Light
import Derived.Outline
import Derived.Test.YtbcgmiocolpjoaaGreatPk01
set_option maxHeartbeats 2000000
set_option maxRecDepth 100000
set_option linter.unusedVariables false
namespace Go.Proofs.YtbcgmiocolpjoaaGreat
namespace Ch
open Go.RowKit
theorem zAL {x r : Int} (h : x = r) : Ending.returned (.int .i64 r) = .returned (.int .i64 x) := by rw [h]
theorem zAA {x r : Bool} (h : x = r) : Ending.returned (.bool r) = .returned (.bool x) := by rw [h]
theorem zFI (x : Int) (w : World) (h0 : 0 <= x) (h1 : x <= 255) :
  Calls Tryz.prog 114 #[.int .u8 x] w fun e w' => e = .returned (.int .i64 (cls x)) /\ w = w' := by
 go_enter Tryz.func114, Tryz.ntmps114
 go_wp2
 all_goals
  go_ret
  refine ⟨zAL ?_, rfl⟩
  go_light
  simp only [beq_iff_eq, beq_eq_false_iff_ne, ne_eq] at *
  unfold cls
  repeat' split
  all_goals omega
theorem zD3 (k : Int) (w : World) :
  Calls Tryz.prog 113 #[.int .i64 k] w fun e w' => e = .returned (.bool (inN k)) /\ w = w' := by
 go_enter Tryz.func113, Tryz.ntmps113
 go_wp2
 all_goals
  go_ret
  exact ⟨zAA (by simp_all [inN]), rfl⟩
theorem zDA (r : Int) (w : World) (h0 : 0 <= r) (h1 : r <= 2147483647) :
  Calls Tryz.prog 126 #[.int .i32 r] w fun e w' => e = .returned (.int .i64 (clsR r)) /\ w = w' := by
 by_cases h : 127 < r
 ·go_enter Tryz.func126, Tryz.ntmps126
  go_wp2
  go_ret
  exact ⟨zAL (by unfold clsR; rw [if_pos h]), rfl⟩
 ·go_enter Tryz.func126, Tryz.ntmps126
  go_wp2_with (go_at_call 114; refine (zFI _ _ ?_ ?_).mono ?_; exact h0; omega; rintro e w' ⟨rfl, rfl⟩)
  go_ret
  exact ⟨zAL (by unfold clsR; rw [if_neg (by omega)]), rfl⟩
end Ch
namespace Ch
open Go.RowKit
theorem zD6 (w w' : World) (s : ByteArray) (pos : Nat) (h : w' = w.iter s pos) : Below w.heap.size w w' := by
 subst h
 exact (Below.refl _ _).alloc (Nat.le_refl _) _
def zGe (b : Bool) (w : World) (e : Ending) (w' : World) : Prop := e = .returned (.bool b) /\ Below w.heap.size w w'
theorem zFO (s : ByteArray) (w : World) :
  Calls Tryz.prog 112 #[.string s, .func (.func 113) #[] #[]] w (zGe (zBE inN s.data.toList) w) := by
 go_enter Tryz.func112, Tryz.ntmps112
 go_wp2
 go_loopw [] (fun w' => ∃ (pos : Nat), w' = w.iter s pos /\ Upto inN s.data.toList pos) (fun w' => s.size - w'.iterPos w.heap.size)
 case atStart => exact ⟨0, rfl, zKj _ _⟩
 case round =>
  obtain ⟨pos, rfl, hu⟩ := hrel
  have HU : Hid (Upto inN s.data.toList pos) := hu
  clear hu
  by_cases hp : pos < s.size
  ·have hnx : ∀ ty, (Instr.next (.pointer (some ⟨w.heap.size, 0, none⟩)) true ty).run Tryz.prog (w.iter s pos) = _ := fun ty => run_next_any w s pos ty hp
   have hle : ((Utf8.decode s pos).1 : Int) <= 2147483647 := by have := decode_le s pos; omega
   have hge : (0 : Int) <= ((Utf8.decode s pos).1 : Int) := by omega
   by_cases hq : inN (clsR ((Utf8.decode s pos).1 : Int)) = true
   ·go_wp2_with (first | (go_at_call 126; refine (zDA _ _ ?_ ?_).mono ?_; exact hge; exact hle; rintro e w' ⟨rfl, rfl⟩) | (go_at_call 113; refine (zD3 _ _).mono ?_; rintro e w' ⟨rfl, rfl⟩))
    have hwd := zCv s pos hp
    go_roundw
    case rel => exact ⟨pos + (Utf8.decode s pos).2, rfl, zHr inN s pos hp HU.out hq⟩
    case measure =>
     simp
     omega
   ·have hq' : inN (clsR ((Utf8.decode s pos).1 : Int)) = false := by simpa using hq
    clear hq
    go_wp2_with (first | (go_at_call 126; refine (zDA _ _ ?_ ?_).mono ?_; exact hge; exact hle; rintro e w' ⟨rfl, rfl⟩) | (go_at_call 113; refine (zD3 _ _).mono ?_; rintro e w' ⟨rfl, rfl⟩))
    go_ret
    exact ⟨zAA (zHq inN s pos hp hq'), zD6 _ _ _ _ rfl⟩
  ·have hnx : ∀ ty, (Instr.next (.pointer (some ⟨w.heap.size, 0, none⟩)) true ty).run Tryz.prog (w.iter s pos) = _ := fun ty => run_next_end w s pos ty hp
   have hee : zBE inN s.data.toList = !s.toList.isEmpty := by rw [ByteArray.toList_eq]; exact zIx inN s pos hp HU.out
   have HE : Hid (zBE inN s.data.toList = !s.toList.isEmpty) := hee
   clear HU hee
   go_wp2
   go_ret
   exact ⟨zAA HE.out, zD6 _ _ _ _ rfl⟩
theorem zIy (p : Int -> Bool) (s : ByteArray) (h : zBE p s.data.toList = true) : 0 < s.size := by
 rcases s with ⟨⟨l⟩⟩
 cases l with
 | nil => simp [zBE] at h
 | cons b r => simp [ByteArray.size]
theorem zJA (s : ByteArray) (h : 0 < s.size) : ∃ b r, s.data.toList = b :: r /\ s[0] = b := by
 rcases s with ⟨⟨l⟩⟩
 cases l with
 | nil => simp [ByteArray.size] at h
 | cons b r => exact ⟨b, r, rfl, rfl⟩
theorem zH3 (s : ByteArray) (h : zBE inN s.data.toList = false) : namB s.data.toList = false := by rw [zDy, h, Bool.false_and]
theorem zJo (s : ByteArray) (h : zBE inN s.data.toList = true) (hp : 0 < s.size) : namB s.data.toList = (cls ((s[0]'hp).toNat : Int) == 4) := by
 obtain ⟨b, r, he, hb⟩ := zJA s hp
 rw [zDy, h, Bool.true_and, hb, he]
 rfl
theorem zF2 (b : UInt8) : ((b.toNat : Int)) <= 255 := by have := b.toNat_lt; omega
theorem zKc (s : ByteArray) (k : Nat) : (s.extract 0 k).data.toList = s.data.toList.take k := by
 simp [ByteArray.data_extract]
theorem zEu (s : ByteArray) (w : World) :
  Calls Tryz.prog 101 #[.string s] w (zGe (namB s.data.toList) w) := by
 by_cases h : zBE inN s.data.toList = true
 ·have hp := zIy _ s h
  have hb := zF2 (s[0]'hp)
  go_enter Tryz.func101, Tryz.ntmps101
  go_wp2_with (first | (go_at_call 112; refine (zFO _ _).mono ?_; rintro e w1 ⟨rfl, hbel⟩) | (go_at_call 114; refine (zFI _ _ ?_ ?_).mono ?_; omega; exact hb; rintro e w2 ⟨rfl, rfl⟩))
  go_ret
  exact ⟨zAA (zJo s h hp), hbel⟩
 ·have h' : zBE inN s.data.toList = false := by simpa using h
  clear h
  go_enter Tryz.func101, Tryz.ntmps101
  go_wp2_with (go_at_call 112; refine (zFO _ _).mono ?_; rintro e w1 ⟨rfl, hbel⟩)
  go_ret
  exact ⟨zAA (zH3 s h'), hbel⟩
end Ch
namespace Ch
open Go.RowKit
theorem zBz (x : Int) (w : World) :
  Calls Tryz.prog 110 #[.int .u8 x] w fun e w' => e = .returned (.int .i64 (cls x)) /\ w = w' := by
 go_enter Tryz.func110, Tryz.ntmps110
 go_wp2
 all_goals
  go_ret
  refine ⟨zAL ?_, rfl⟩
  go_light
  simp only [beq_iff_eq, beq_eq_false_iff_ne, ne_eq] at *
  unfold cls
  repeat' split
  all_goals omega
def zEV (p : Nat -> UInt8 -> Bool) (l : List UInt8) (k : Nat) : Prop := ∀ j, (h : j < l.length) -> j < k -> p j l[j] = true
theorem zIV (p : Nat -> UInt8 -> Bool) (l : List UInt8) : zEV p l 0 := fun _ _ h => by omega
theorem zEU (p : Nat -> UInt8 -> Bool) (s : ByteArray) (k : Nat) (hk : k < s.size) (h : zEV p s.data.toList k) (hp : p k (s[k]'hk) = true) : zEV p s.data.toList (k + 1) := by
 intro j hj hlt
 by_cases e : j = k
 ·subst e
  exact hp
 ·exact h j hj (by omega)
def nameAt (j : Nat) (b : UInt8) : Bool := cb b == 4 || (cb b == 3 && !(j == 0))
theorem zK1 (p : Int -> Bool) (q : Nat -> UInt8 -> Bool) (b : UInt8) (r : List UInt8) (k : Nat) (hk : (b :: r).length <= k) (h : zEV q (b :: r) k) (hq : ∀ j c, 0 < j -> q j c = true -> p (cb c) = true) : (r.all fun c => p (cb c)) = true := by
 rw [List.all_eq_true]
 intro x hx
 obtain ⟨i, hi, rfl⟩ := List.mem_iff_getElem.mp hx
 have := h (i + 1) (by simpa using hi) (by simp at hk; omega)
 exact hq (i + 1) _ (by omega) (by simpa using this)
theorem zKG (s : ByteArray) (k : Nat) (hk : ¬ k < s.size) (h : zEV nameAt s.data.toList k) : namB s.data.toList = decide (0 < s.size) := by
 rcases s with ⟨⟨l⟩⟩
 cases l with
 | nil => rfl
 | cons b r =>
  have hk' : (b :: r).length <= k := by simp only [ByteArray.size] at hk; simp at hk ⊢; omega
  have h0 : nameAt 0 b = true := h 0 (by simp) (by simp at hk'; omega)
  have ht := zK1 inN nameAt b r k hk' h fun j c _ hc => by
   simp only [nameAt, inN, Bool.or_eq_true, Bool.and_eq_true] at hc ⊢
   rcases hc with hc | hc
   ·exact .inl hc
   ·exact .inr hc.1
  simp [nameAt] at h0
  simp [namB, h0, ht, ByteArray.size]
theorem zEK (s : ByteArray) (k : Nat) (hk : k < s.size) (h : nameAt k (s[k]'hk) = false) : namB s.data.toList = false := by
 rw [Bool.eq_false_iff]
 intro hn
 rcases s with ⟨⟨l⟩⟩
 have hk' : k < l.length := by simpa [ByteArray.size] using hk
 have h' : nameAt k l[k] = false := h
 cases l with
 | nil => simp [namB] at hn
 | cons b r =>
  simp only [namB, Bool.and_eq_true, List.all_eq_true] at hn
  cases k with
  | zero => simp [nameAt, hn.1] at h'
  | succ k =>
   have hi : r[k]'(by simpa using hk') ∈ r := List.getElem_mem _
   have := hn.2 _ hi
   simp [nameAt] at h'
   simp [inN, h'] at this
theorem zKF (s : ByteArray) (w : World) (hs : s.size <= maxLen) :
  Calls Tryz.prog 97 #[.string s] w fun e w' => e = .returned (.bool (namB s.data.toList)) /\ w = w' := by
 unfold maxLen at hs
 go_enter Tryz.func97, Tryz.ntmps97
 go_wp2
 go_loop [3] (fun i => ∃ k : Nat, k <= s.size /\ i = .int .i64 k /\ zEV nameAt s.data.toList k) (fun i => s.size - (intOf i).toNat)
 case atStart => exact ⟨0, by omega, rfl, zIV _ _⟩
 case round =>
  obtain ⟨k, hk, rfl, hu⟩ := hrel
  have HU : Hid (zEV nameAt s.data.toList k) := hu
  clear hu
  by_cases hlt : k < s.size
  ·by_cases c4 : cls ((s[k]'hlt).toNat : Int) = 4
   ·have HS : Hid (zEV nameAt s.data.toList (k + 1)) := zEU _ s k hlt HU.out (by simp [nameAt, cb, c4])
    clear HU
    go_wp2_with (go_at_call 110; refine (zBz _ _).mono ?_; rintro e w' ⟨rfl, rfl⟩)
    go_round
    case rel => exact ⟨k + 1, by omega, by go_num, HS.out⟩
    case measure => simp [intOf]; omega
   ·by_cases c3 : cls ((s[k]'hlt).toNat : Int) = 3
    ·by_cases hz : k = 0
     ·have HF : Hid (namB s.data.toList = false) := zEK s k hlt (by subst hz; simp [nameAt, cb, c4])
      clear HU
      subst hz
      go_wp2_with (go_at_call 110; refine (zBz _ _).mono ?_; rintro e w' ⟨rfl, rfl⟩)
      go_ret
      exact ⟨zAA HF.out, rfl⟩
     ·have HS : Hid (zEV nameAt s.data.toList (k + 1)) := zEU _ s k hlt HU.out (by simp [nameAt, cb, c3, hz])
      clear HU
      go_wp2_with (go_at_call 110; refine (zBz _ _).mono ?_; rintro e w' ⟨rfl, rfl⟩)
      go_round
      case rel => exact ⟨k + 1, by omega, by go_num, HS.out⟩
      case measure => simp [intOf]; omega
    ·have HF : Hid (namB s.data.toList = false) := zEK s k hlt (by simp [nameAt, cb, c4, c3])
     clear HU
     go_wp2_with (go_at_call 110; refine (zBz _ _).mono ?_; rintro e w' ⟨rfl, rfl⟩)
     go_ret
     exact ⟨zAA HF.out, rfl⟩
  ·have HE : Hid (namB s.data.toList = decide (0 < s.size)) := zKG s k hlt HU.out
   clear HU
   by_cases h0 : 0 < s.size
   ·go_wp2
    go_ret
    exact ⟨zAA (by rw [HE.out, decide_eq_true h0]), rfl⟩
   ·go_wp2
    go_ret
    exact ⟨zAA (by rw [HE.out, decide_eq_false h0]), rfl⟩
