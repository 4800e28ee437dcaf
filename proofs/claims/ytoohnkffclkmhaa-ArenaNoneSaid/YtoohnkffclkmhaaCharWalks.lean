/-
  What each function of package char answers for every string: its form, and where its sign stands; nothing that was there before is written. No condition but that a string fits a machine.
-/
import Derived.Test.YtoohnkffclkmhaaCharClass
namespace Go.Proofs.Ytoohnkffclkmhaa.Ch
open Go.RowKit

theorem iter_below (w w' : World) (s : ByteArray) (pos : Nat) (h : w' = w.iter s pos) : Below w.heap.size w w' := by
  subst h
  exact (Below.refl _ _).alloc (Nat.le_refl _) _

/-- The end of a loop over a string: the answer, and that only the loop's own block is new. -/
def EveryEnd (b : Bool) (w : World) (e : Ending) (w' : World) : Prop := e = .returned (.bool b) ∧ Below w.heap.size w w'

set_option maxHeartbeats 1000000 in
set_option maxRecDepth 100000 in
theorem every_inN (s : ByteArray) (w : World) :
    Calls Try.prog 64 #[.string s, .func (.func 65) #[] #[]] w (EveryEnd (everyB inN s.data.toList) w) := by
  go_enter Try.func64, Try.ntmps64
  go_wp2
  go_loopw [] (fun w' => ∃ (pos : Nat), w' = w.iter s pos ∧ Upto inN s.data.toList pos) (fun w' => s.size - w'.iterPos w.heap.size)
  case atStart => exact ⟨0, rfl, upto_zero _ _⟩
  case round =>
    obtain ⟨pos, rfl, hu⟩ := hrel
    have HU : Hid (Upto inN s.data.toList pos) := hu
    clear hu
    by_cases hp : pos < s.size
    · have hnx : ∀ ty, (Instr.next (.pointer (some ⟨w.heap.size, 0, none⟩)) true ty).run Try.prog (w.iter s pos) = _ := fun ty => run_next_any w s pos ty hp
      have hle : ((Utf8.decode s pos).1 : Int) ≤ 2147483647 := by have := decode_le s pos; omega
      have hge : (0 : Int) ≤ ((Utf8.decode s pos).1 : Int) := by omega
      by_cases hq : inN (clsR ((Utf8.decode s pos).1 : Int)) = true
      · go_wp2_with (first | (go_at_call 72; refine (classOf_any _ _ ?_ ?_).mono ?_; exact hge; exact hle; rintro e w' ⟨rfl, rfl⟩) | (go_at_call 65; refine (inName_any _ _).mono ?_; rintro e w' ⟨rfl, rfl⟩))
        have hwd := decode_width s pos hp
        go_roundw
        case rel => exact ⟨pos + (Utf8.decode s pos).2, rfl, every_step inN s pos hp HU.out hq⟩
        case measure =>
          simp
          omega
      · have hq' : inN (clsR ((Utf8.decode s pos).1 : Int)) = false := by simpa using hq
        clear hq
        go_wp2_with (first | (go_at_call 72; refine (classOf_any _ _ ?_ ?_).mono ?_; exact hge; exact hle; rintro e w' ⟨rfl, rfl⟩) | (go_at_call 65; refine (inName_any _ _).mono ?_; rintro e w' ⟨rfl, rfl⟩))
        go_ret
        exact ⟨bool_of (every_fail inN s pos hp hq'), iter_below _ _ _ _ rfl⟩
    · have hnx : ∀ ty, (Instr.next (.pointer (some ⟨w.heap.size, 0, none⟩)) true ty).run Try.prog (w.iter s pos) = _ := fun ty => run_next_end w s pos ty hp
      have hee : everyB inN s.data.toList = !s.toList.isEmpty := by rw [ByteArray.toList_eq]; exact every_end inN s pos hp HU.out
      have HE : Hid (everyB inN s.data.toList = !s.toList.isEmpty) := hee
      clear HU hee
      go_wp2
      go_ret
      exact ⟨bool_of HE.out, iter_below _ _ _ _ rfl⟩

theorem every_pos (p : Int → Bool) (s : ByteArray) (h : everyB p s.data.toList = true) : 0 < s.size := by
  rcases s with ⟨⟨l⟩⟩
  cases l with
  | nil => simp [everyB] at h
  | cons b r => simp [ByteArray.size]

theorem head_form (s : ByteArray) (h : 0 < s.size) : ∃ b r, s.data.toList = b :: r ∧ s[0] = b := by
  rcases s with ⟨⟨l⟩⟩
  cases l with
  | nil => simp [ByteArray.size] at h
  | cons b r => exact ⟨b, r, rfl, rfl⟩

theorem name_false (s : ByteArray) (h : everyB inN s.data.toList = false) : namB s.data.toList = false := by rw [every_name, h, Bool.false_and]
theorem name_true (s : ByteArray) (h : everyB inN s.data.toList = true) (hp : 0 < s.size) : namB s.data.toList = (cls ((s[0]'hp).toNat : Int) == 4) := by
  obtain ⟨b, r, he, hb⟩ := head_form s hp
  rw [every_name, h, Bool.true_and, hb, he]
  rfl
theorem plain_false (s : ByteArray) (h : everyB inP s.data.toList = false) : plaB s.data.toList = false := by rw [every_plain, h, Bool.false_and]
theorem plain_true (s : ByteArray) (h : everyB inP s.data.toList = true) (hp : 0 < s.size) : plaB s.data.toList = !(((s[0]'hp).toNat : Int) == 35) := by
  obtain ⟨b, r, he, hb⟩ := head_form s hp
  rw [every_plain, h, Bool.true_and, hb, he]
  simp only
  congr 1
  rw [Bool.eq_iff_iff, beq_iff_eq, beq_iff_eq]
  constructor
  · intro e; subst e; rfl
  · intro e
    have e' : b.toNat = 35 := by omega
    exact UInt8.toNat_inj.mp e'

theorem byte_le (b : UInt8) : ((b.toNat : Int)) ≤ 255 := by have := b.toNat_lt; omega

/-- A step of the decoding at a byte that is no equals sign. -/
theorem free_step (s : ByteArray) (pos : Nat) (hp : pos < s.size) (h : Free s.data.toList pos) (hne : (s[pos]'hp).toNat ≠ 61) : Free s.data.toList (pos + (Utf8.decode s pos).2) := by
  intro j hj hlt he
  by_cases hb : j < pos
  · exact h j hj hb he
  · by_cases ha : (s[pos]'hp).toNat < 128
    · rw [decode_ascii s pos hp ha] at hlt
      simp only at hlt
      obtain rfl : j = pos := by omega
      apply hne
      have e : s.data.toList[j] = s[j]'hp := rfl
      rw [← e, he]
      rfl
    · have hc := decode_cover s pos hp (by omega) (j - pos) (by omega)
      rw [show pos + (j - pos) = j by omega] at hc
      rw [get_bang s j hc.1] at hc
      have e : s.data.toList[j] = s[j]'hc.1 := rfl
      have h2 := hc.2
      rw [← e, he] at h2
      exact absurd h2 (by decide)

theorem rune_ne (s : ByteArray) (pos : Nat) (hp : pos < s.size) (hne : (s[pos]'hp).toNat ≠ 61) : ((Utf8.decode s pos).1 : Int) ≠ 61 := by
  by_cases ha : (s[pos]'hp).toNat < 128
  · rw [decode_ascii s pos hp ha]
    simp only
    omega
  · have := (decode_high s pos hp (by omega)).1
    omega

theorem take_data (s : ByteArray) (k : Nat) : (s.extract 0 k).data.toList = s.data.toList.take k := by
  simp [ByteArray.data_extract]

set_option maxRecDepth 100000 in
theorem name_any (s : ByteArray) (w : World) :
    Calls Try.prog 59 #[.string s] w (EveryEnd (namB s.data.toList) w) := by
  by_cases h : everyB inN s.data.toList = true
  · have hp := every_pos _ s h
    have hb := byte_le (s[0]'hp)
    go_enter Try.func59, Try.ntmps59
    go_wp2_with (first | (go_at_call 64; refine (every_inN _ _).mono ?_; rintro e w1 ⟨rfl, hbel⟩) | (go_at_call 66; refine (class_any _ _ ?_ ?_).mono ?_; omega; exact hb; rintro e w2 ⟨rfl, rfl⟩))
    go_ret
    exact ⟨bool_of (name_true s h hp), hbel⟩
  · have h' : everyB inN s.data.toList = false := by simpa using h
    clear h
    go_enter Try.func59, Try.ntmps59
    go_wp2_with (go_at_call 64; refine (every_inN _ _).mono ?_; rintro e w1 ⟨rfl, hbel⟩)
    go_ret
    exact ⟨bool_of (name_false s h'), hbel⟩

def AssignEnd (n : Int) (w : World) (e : Ending) (w' : World) : Prop := e = .returned (.int .i64 n) ∧ Below w.heap.size w w'

theorem iter_trans {w w1 : World} {s : ByteArray} {pos : Nat} (h : Below (w.iter s pos).heap.size (w.iter s pos) w1) : Below w.heap.size w w1 :=
  (iter_below w _ s pos rfl).trans (h.mono (by simp [World.iter]))

end Go.Proofs.Ytoohnkffclkmhaa.Ch
