/- A part of the proof. -/
import Derived.Test.YtnfbjlainpenaaaGreatDoorRows
import Derived.WalkKit
import Derived.ProofKit
import Derived.Below
import Derived.Deep.Light
import Derived.Outline
import Derived.Test.YtnfbjlainpenaaaGreatDoorPk01
set_option maxHeartbeats 2000000
set_option maxRecDepth 100000
set_option linter.unusedVariables false
namespace Go.Proofs.YtnfbjlainpenaaaGreatDoor
namespace Ch
open Go.RowKit
theorem zAl {x r : Int} (h : x = r) : Ending.returned (.int .i64 r) = .returned (.int .i64 x) := by rw [h]
theorem zAK {x r : Bool} (h : x = r) : Ending.returned (.bool r) = .returned (.bool x) := by rw [h]
theorem zFt (x : Int) (w : World) (h0 : 0 <= x) (h1 : x <= 255) :
  Calls Tryz.prog 163 #[.int .u8 x] w fun e w' => e = .returned (.int .i64 (cls x)) /\ w = w' := by
 go_enter Tryz.func163, Tryz.ntmps163
 go_wp2
 all_goals
  go_ret
  refine ⟨zAl ?_, rfl⟩
  go_light
  simp only [beq_iff_eq, beq_eq_false_iff_ne, ne_eq] at *
  unfold cls
  repeat' split
  all_goals omega
theorem zEn (k : Int) (w : World) :
  Calls Tryz.prog 162 #[.int .i64 k] w fun e w' => e = .returned (.bool (inN k)) /\ w = w' := by
 go_enter Tryz.func162, Tryz.ntmps162
 go_wp2
 all_goals
  go_ret
  exact ⟨zAK (by simp_all [inN]), rfl⟩
theorem zDu (r : Int) (w : World) (h0 : 0 <= r) (h1 : r <= 2147483647) :
  Calls Tryz.prog 202 #[.int .i32 r] w fun e w' => e = .returned (.int .i64 (clsR r)) /\ w = w' := by
 by_cases h : 127 < r
 ·go_enter Tryz.func202, Tryz.ntmps202
  go_wp2
  go_ret
  exact ⟨zAl (by unfold clsR; rw [if_pos h]), rfl⟩
 ·go_enter Tryz.func202, Tryz.ntmps202
  go_wp2_with (go_at_call 163; refine (zFt _ _ ?_ ?_).mono ?_; exact h0; omega; rintro e w' ⟨rfl, rfl⟩)
  go_ret
  exact ⟨zAl (by unfold clsR; rw [if_neg (by omega)]), rfl⟩
end Ch
namespace Ch
open Go.RowKit
theorem zEp (w w' : World) (s : ByteArray) (pos : Nat) (h : w' = w.iter s pos) : Below w.heap.size w w' := by
 subst h
 exact (Below.refl _ _).alloc (Nat.le_refl _) _
def zHY (b : Bool) (w : World) (e : Ending) (w' : World) : Prop := e = .returned (.bool b) /\ Below w.heap.size w w'
theorem zF2 (s : ByteArray) (w : World) :
  Calls Tryz.prog 161 #[.string s, .func (.func 162) #[] #[]] w (zHY (zBQ inN s.data.toList) w) := by
 go_enter Tryz.func161, Tryz.ntmps161
 go_wp2
 go_loopw [] (fun w' => ∃ (pos : Nat), w' = w.iter s pos /\ Upto inN s.data.toList pos) (fun w' => s.size - w'.iterPos w.heap.size)
 case atStart => exact ⟨0, rfl, zMJ _ _⟩
 case round =>
  obtain ⟨pos, rfl, hu⟩ := hrel
  have HU : Hid (Upto inN s.data.toList pos) := hu
  clear hu
  by_cases hp : pos < s.size
  ·have hnx : ∀ ty, (Instr.next (.pointer (some ⟨w.heap.size, 0, none⟩)) true ty).run Tryz.prog (w.iter s pos) = _ := fun ty => run_next_any w s pos ty hp
   have hle : ((Utf8.decode s pos).1 : Int) <= 2147483647 := by have := decode_le s pos; omega
   have hge : (0 : Int) <= ((Utf8.decode s pos).1 : Int) := by omega
   by_cases hq : inN (clsR ((Utf8.decode s pos).1 : Int)) = true
   ·go_wp2_with (first | (go_at_call 202; refine (zDu _ _ ?_ ?_).mono ?_; exact hge; exact hle; rintro e w' ⟨rfl, rfl⟩) | (go_at_call 162; refine (zEn _ _).mono ?_; rintro e w' ⟨rfl, rfl⟩))
    have hwd := zDQ s pos hp
    go_roundw
    case rel => exact ⟨pos + (Utf8.decode s pos).2, rfl, zIr inN s pos hp HU.out hq⟩
    case measure =>
     simp
     omega
   ·have hq' : inN (clsR ((Utf8.decode s pos).1 : Int)) = false := by simpa using hq
    clear hq
    go_wp2_with (first | (go_at_call 202; refine (zDu _ _ ?_ ?_).mono ?_; exact hge; exact hle; rintro e w' ⟨rfl, rfl⟩) | (go_at_call 162; refine (zEn _ _).mono ?_; rintro e w' ⟨rfl, rfl⟩))
    go_ret
    exact ⟨zAK (zIq inN s pos hp hq'), zEp _ _ _ _ rfl⟩
  ·have hnx : ∀ ty, (Instr.next (.pointer (some ⟨w.heap.size, 0, none⟩)) true ty).run Tryz.prog (w.iter s pos) = _ := fun ty => run_next_end w s pos ty hp
   have hee : zBQ inN s.data.toList = !s.toList.isEmpty := by rw [ByteArray.toList_eq]; exact zKG inN s pos hp HU.out
   have HE : Hid (zBQ inN s.data.toList = !s.toList.isEmpty) := hee
   clear HU hee
   go_wp2
   go_ret
   exact ⟨zAK HE.out, zEp _ _ _ _ rfl⟩
theorem zKH (p : Int -> Bool) (s : ByteArray) (h : zBQ p s.data.toList = true) : 0 < s.size := by
 rcases s with ⟨⟨l⟩⟩
 cases l with
 | nil => simp [zBQ] at h
 | cons b r => simp [ByteArray.size]
theorem zKZ (s : ByteArray) (h : 0 < s.size) : ∃ b r, s.data.toList = b :: r /\ s[0] = b := by
 rcases s with ⟨⟨l⟩⟩
 cases l with
 | nil => simp [ByteArray.size] at h
 | cons b r => exact ⟨b, r, rfl, rfl⟩
theorem zI7 (s : ByteArray) (h : zBQ inN s.data.toList = false) : namB s.data.toList = false := by rw [zEi, h, Bool.false_and]
theorem zLJ (s : ByteArray) (h : zBQ inN s.data.toList = true) (hp : 0 < s.size) : namB s.data.toList = (cls ((s[0]'hp).toNat : Int) == 4) := by
 obtain ⟨b, r, he, hb⟩ := zKZ s hp
 rw [zEi, h, Bool.true_and, hb, he]
 rfl
theorem zPT (b : UInt8) : ((b.toNat : Int)) <= 255 := by have := b.toNat_lt; omega
theorem zMB (s : ByteArray) (k : Nat) : (s.extract 0 k).data.toList = s.data.toList.take k := by
 simp [ByteArray.data_extract]
theorem zFQ (s : ByteArray) (w : World) :
  Calls Tryz.prog 134 #[.string s] w (zHY (namB s.data.toList) w) := by
 by_cases h : zBQ inN s.data.toList = true
 ·have hp := zKH _ s h
  have hb := zPT (s[0]'hp)
  go_enter Tryz.func134, Tryz.ntmps134
  go_wp2_with (first | (go_at_call 161; refine (zF2 _ _).mono ?_; rintro e w1 ⟨rfl, hbel⟩) | (go_at_call 163; refine (zFt _ _ ?_ ?_).mono ?_; omega; exact hb; rintro e w2 ⟨rfl, rfl⟩))
  go_ret
  exact ⟨zAK (zLJ s h hp), hbel⟩
 ·have h' : zBQ inN s.data.toList = false := by simpa using h
  clear h
  go_enter Tryz.func134, Tryz.ntmps134
  go_wp2_with (go_at_call 161; refine (zF2 _ _).mono ?_; rintro e w1 ⟨rfl, hbel⟩)
  go_ret
  exact ⟨zAK (zI7 s h'), hbel⟩
