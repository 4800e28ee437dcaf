/-
  What each function of package char answers for every string: its form, and where its sign stands; nothing that was there before is written. No condition but that a string fits a machine.
-/
import Derived.Test.YtdjjdpllkooklaaCharClass
namespace Go.Proofs.Ytdjjdpllkooklaa.Ch
open Go.RowKit

theorem iter_below (w w' : World) (s : ByteArray) (pos : Nat) (h : w' = w.iter s pos) : Below w.heap.size w w' := by
  subst h
  exact (Below.refl _ _).alloc (Nat.le_refl _) _

/-- The end of a loop over a string: the answer, and that only the loop's own block is new. -/
def EveryEnd (b : Bool) (w : World) (e : Ending) (w' : World) : Prop := e = .returned (.bool b) ∧ Below w.heap.size w w'

set_option maxHeartbeats 1000000 in
set_option maxRecDepth 100000 in
theorem every_inN (s : ByteArray) (w : World) :
    Calls Try.prog 19 #[.string s, .func (.func 20) #[] #[]] w (EveryEnd (everyB inN s.data.toList) w) := by
  go_enter Try.func19, Try.ntmps19
  go_wp2
  go_loopw [] (fun w' => ∃ (pos : Nat), w' = w.iter s pos ∧ Upto inN s.data.toList pos) (fun w' => s.size - w'.iterPos w.heap.size)
  case atStart => exact ⟨0, rfl, upto_zero _ _⟩
  case round =>
    obtain ⟨pos, rfl, hu⟩ := hrel
    have HU : Hid (Upto inN s.data.toList pos) := hu
    clear hu
    by_cases hp : pos < s.size
    · have hnx : ∀ ty, (Instr.next (.pointer (some ⟨w.heap.size, 0, none⟩)) true ty).run Try.prog (w.iter s pos) = _ := fun ty => run_next_any w s pos ty hp
      have hle : ((Utf8.decode s pos).1 : Int) ≤ 2147483647 := by have := decode_le s pos; omega
      have hge : (0 : Int) ≤ ((Utf8.decode s pos).1 : Int) := by omega
      by_cases hq : inN (clsR ((Utf8.decode s pos).1 : Int)) = true
      · go_wp2_with (first | (go_at_call 23; refine (classOf_any _ _ ?_ ?_).mono ?_; exact hge; exact hle; rintro e w' ⟨rfl, rfl⟩) | (go_at_call 20; refine (inName_any _ _).mono ?_; rintro e w' ⟨rfl, rfl⟩))
        have hwd := decode_width s pos hp
        go_roundw
        case rel => exact ⟨pos + (Utf8.decode s pos).2, rfl, every_step inN s pos hp HU.out hq⟩
        case measure =>
          simp
          omega
      · have hq' : inN (clsR ((Utf8.decode s pos).1 : Int)) = false := by simpa using hq
        clear hq
        go_wp2_with (first | (go_at_call 23; refine (classOf_any _ _ ?_ ?_).mono ?_; exact hge; exact hle; rintro e w' ⟨rfl, rfl⟩) | (go_at_call 20; refine (inName_any _ _).mono ?_; rintro e w' ⟨rfl, rfl⟩))
        go_ret
        exact ⟨bool_of (every_fail inN s pos hp hq'), iter_below _ _ _ _ rfl⟩
    · have hnx : ∀ ty, (Instr.next (.pointer (some ⟨w.heap.size, 0, none⟩)) true ty).run Try.prog (w.iter s pos) = _ := fun ty => run_next_end w s pos ty hp
      have hee : everyB inN s.data.toList = !s.toList.isEmpty := by rw [ByteArray.toList_eq]; exact every_end inN s pos hp HU.out
      have HE : Hid (everyB inN s.data.toList = !s.toList.isEmpty) := hee
      clear HU hee
      go_wp2
      go_ret
      exact ⟨bool_of HE.out, iter_below _ _ _ _ rfl⟩

set_option maxHeartbeats 1000000 in
set_option maxRecDepth 100000 in
theorem every_inD (s : ByteArray) (w : World) :
    Calls Try.prog 19 #[.string s, .func (.func 21) #[] #[]] w (EveryEnd (everyB inD s.data.toList) w) := by
  go_enter Try.func19, Try.ntmps19
  go_wp2
  go_loopw [] (fun w' => ∃ (pos : Nat), w' = w.iter s pos ∧ Upto inD s.data.toList pos) (fun w' => s.size - w'.iterPos w.heap.size)
  case atStart => exact ⟨0, rfl, upto_zero _ _⟩
  case round =>
    obtain ⟨pos, rfl, hu⟩ := hrel
    have HU : Hid (Upto inD s.data.toList pos) := hu
    clear hu
    by_cases hp : pos < s.size
    · have hnx : ∀ ty, (Instr.next (.pointer (some ⟨w.heap.size, 0, none⟩)) true ty).run Try.prog (w.iter s pos) = _ := fun ty => run_next_any w s pos ty hp
      have hle : ((Utf8.decode s pos).1 : Int) ≤ 2147483647 := by have := decode_le s pos; omega
      have hge : (0 : Int) ≤ ((Utf8.decode s pos).1 : Int) := by omega
      by_cases hq : inD (clsR ((Utf8.decode s pos).1 : Int)) = true
      · go_wp2_with (first | (go_at_call 23; refine (classOf_any _ _ ?_ ?_).mono ?_; exact hge; exact hle; rintro e w' ⟨rfl, rfl⟩) | (go_at_call 21; refine (isDigit_any _ _).mono ?_; rintro e w' ⟨rfl, rfl⟩))
        have hwd := decode_width s pos hp
        go_roundw
        case rel => exact ⟨pos + (Utf8.decode s pos).2, rfl, every_step inD s pos hp HU.out hq⟩
        case measure =>
          simp
          omega
      · have hq' : inD (clsR ((Utf8.decode s pos).1 : Int)) = false := by simpa using hq
        clear hq
        go_wp2_with (first | (go_at_call 23; refine (classOf_any _ _ ?_ ?_).mono ?_; exact hge; exact hle; rintro e w' ⟨rfl, rfl⟩) | (go_at_call 21; refine (isDigit_any _ _).mono ?_; rintro e w' ⟨rfl, rfl⟩))
        go_ret
        exact ⟨bool_of (every_fail inD s pos hp hq'), iter_below _ _ _ _ rfl⟩
    · have hnx : ∀ ty, (Instr.next (.pointer (some ⟨w.heap.size, 0, none⟩)) true ty).run Try.prog (w.iter s pos) = _ := fun ty => run_next_end w s pos ty hp
      have hee : everyB inD s.data.toList = !s.toList.isEmpty := by rw [ByteArray.toList_eq]; exact every_end inD s pos hp HU.out
      have HE : Hid (everyB inD s.data.toList = !s.toList.isEmpty) := hee
      clear HU hee
      go_wp2
      go_ret
      exact ⟨bool_of HE.out, iter_below _ _ _ _ rfl⟩

set_option maxHeartbeats 1000000 in
set_option maxRecDepth 100000 in
theorem every_inP (s : ByteArray) (w : World) :
    Calls Try.prog 19 #[.string s, .func (.func 22) #[] #[]] w (EveryEnd (everyB inP s.data.toList) w) := by
  go_enter Try.func19, Try.ntmps19
  go_wp2
  go_loopw [] (fun w' => ∃ (pos : Nat), w' = w.iter s pos ∧ Upto inP s.data.toList pos) (fun w' => s.size - w'.iterPos w.heap.size)
  case atStart => exact ⟨0, rfl, upto_zero _ _⟩
  case round =>
    obtain ⟨pos, rfl, hu⟩ := hrel
    have HU : Hid (Upto inP s.data.toList pos) := hu
    clear hu
    by_cases hp : pos < s.size
    · have hnx : ∀ ty, (Instr.next (.pointer (some ⟨w.heap.size, 0, none⟩)) true ty).run Try.prog (w.iter s pos) = _ := fun ty => run_next_any w s pos ty hp
      have hle : ((Utf8.decode s pos).1 : Int) ≤ 2147483647 := by have := decode_le s pos; omega
      have hge : (0 : Int) ≤ ((Utf8.decode s pos).1 : Int) := by omega
      by_cases hq : inP (clsR ((Utf8.decode s pos).1 : Int)) = true
      · go_wp2_with (first | (go_at_call 23; refine (classOf_any _ _ ?_ ?_).mono ?_; exact hge; exact hle; rintro e w' ⟨rfl, rfl⟩) | (go_at_call 22; refine (inPlain_any _ _).mono ?_; rintro e w' ⟨rfl, rfl⟩))
        have hwd := decode_width s pos hp
        go_roundw
        case rel => exact ⟨pos + (Utf8.decode s pos).2, rfl, every_step inP s pos hp HU.out hq⟩
        case measure =>
          simp
          omega
      · have hq' : inP (clsR ((Utf8.decode s pos).1 : Int)) = false := by simpa using hq
        clear hq
        go_wp2_with (first | (go_at_call 23; refine (classOf_any _ _ ?_ ?_).mono ?_; exact hge; exact hle; rintro e w' ⟨rfl, rfl⟩) | (go_at_call 22; refine (inPlain_any _ _).mono ?_; rintro e w' ⟨rfl, rfl⟩))
        go_ret
        exact ⟨bool_of (every_fail inP s pos hp hq'), iter_below _ _ _ _ rfl⟩
    · have hnx : ∀ ty, (Instr.next (.pointer (some ⟨w.heap.size, 0, none⟩)) true ty).run Try.prog (w.iter s pos) = _ := fun ty => run_next_end w s pos ty hp
      have hee : everyB inP s.data.toList = !s.toList.isEmpty := by rw [ByteArray.toList_eq]; exact every_end inP s pos hp HU.out
      have HE : Hid (everyB inP s.data.toList = !s.toList.isEmpty) := hee
      clear HU hee
      go_wp2
      go_ret
      exact ⟨bool_of HE.out, iter_below _ _ _ _ rfl⟩

theorem every_pos (p : Int → Bool) (s : ByteArray) (h : everyB p s.data.toList = true) : 0 < s.size := by
  rcases s with ⟨⟨l⟩⟩
  cases l with
  | nil => simp [everyB] at h
  | cons b r => simp [ByteArray.size]

theorem head_form (s : ByteArray) (h : 0 < s.size) : ∃ b r, s.data.toList = b :: r ∧ s[0] = b := by
  rcases s with ⟨⟨l⟩⟩
  cases l with
  | nil => simp [ByteArray.size] at h
  | cons b r => exact ⟨b, r, rfl, rfl⟩

theorem name_false (s : ByteArray) (h : everyB inN s.data.toList = false) : namB s.data.toList = false := by rw [every_name, h, Bool.false_and]
theorem name_true (s : ByteArray) (h : everyB inN s.data.toList = true) (hp : 0 < s.size) : namB s.data.toList = (cls ((s[0]'hp).toNat : Int) == 4) := by
  obtain ⟨b, r, he, hb⟩ := head_form s hp
  rw [every_name, h, Bool.true_and, hb, he]
  rfl
theorem plain_false (s : ByteArray) (h : everyB inP s.data.toList = false) : plaB s.data.toList = false := by rw [every_plain, h, Bool.false_and]
theorem plain_true (s : ByteArray) (h : everyB inP s.data.toList = true) (hp : 0 < s.size) : plaB s.data.toList = !(((s[0]'hp).toNat : Int) == 35) := by
  obtain ⟨b, r, he, hb⟩ := head_form s hp
  rw [every_plain, h, Bool.true_and, hb, he]
  simp only
  congr 1
  rw [Bool.eq_iff_iff, beq_iff_eq, beq_iff_eq]
  constructor
  · intro e; subst e; rfl
  · intro e
    have e' : b.toNat = 35 := by omega
    exact UInt8.toNat_inj.mp e'

theorem byte_le (b : UInt8) : ((b.toNat : Int)) ≤ 255 := by have := b.toNat_lt; omega

/-- A step of the decoding at a byte that is no equals sign. -/
theorem free_step (s : ByteArray) (pos : Nat) (hp : pos < s.size) (h : Free s.data.toList pos) (hne : (s[pos]'hp).toNat ≠ 61) : Free s.data.toList (pos + (Utf8.decode s pos).2) := by
  intro j hj hlt he
  by_cases hb : j < pos
  · exact h j hj hb he
  · by_cases ha : (s[pos]'hp).toNat < 128
    · rw [decode_ascii s pos hp ha] at hlt
      simp only at hlt
      obtain rfl : j = pos := by omega
      apply hne
      have e : s.data.toList[j] = s[j]'hp := rfl
      rw [← e, he]
      rfl
    · have hc := decode_cover s pos hp (by omega) (j - pos) (by omega)
      rw [show pos + (j - pos) = j by omega] at hc
      rw [get_bang s j hc.1] at hc
      have e : s.data.toList[j] = s[j]'hc.1 := rfl
      have h2 := hc.2
      rw [← e, he] at h2
      exact absurd h2 (by decide)

theorem rune_ne (s : ByteArray) (pos : Nat) (hp : pos < s.size) (hne : (s[pos]'hp).toNat ≠ 61) : ((Utf8.decode s pos).1 : Int) ≠ 61 := by
  by_cases ha : (s[pos]'hp).toNat < 128
  · rw [decode_ascii s pos hp ha]
    simp only
    omega
  · have := (decode_high s pos hp (by omega)).1
    omega

theorem take_data (s : ByteArray) (k : Nat) : (s.extract 0 k).data.toList = s.data.toList.take k := by
  simp [ByteArray.data_extract]

set_option maxRecDepth 100000 in
theorem name_any (s : ByteArray) (w : World) :
    Calls Try.prog 11 #[.string s] w (EveryEnd (namB s.data.toList) w) := by
  by_cases h : everyB inN s.data.toList = true
  · have hp := every_pos _ s h
    have hb := byte_le (s[0]'hp)
    go_enter Try.func11, Try.ntmps11
    go_wp2_with (first | (go_at_call 19; refine (every_inN _ _).mono ?_; rintro e w1 ⟨rfl, hbel⟩) | (go_at_call 7; refine (class_any _ _ ?_ ?_).mono ?_; omega; exact hb; rintro e w2 ⟨rfl, rfl⟩))
    go_ret
    exact ⟨bool_of (name_true s h hp), hbel⟩
  · have h' : everyB inN s.data.toList = false := by simpa using h
    clear h
    go_enter Try.func11, Try.ntmps11
    go_wp2_with (go_at_call 19; refine (every_inN _ _).mono ?_; rintro e w1 ⟨rfl, hbel⟩)
    go_ret
    exact ⟨bool_of (name_false s h'), hbel⟩

set_option maxRecDepth 100000 in
theorem digits_any (s : ByteArray) (w : World) :
    Calls Try.prog 13 #[.string s] w (EveryEnd (digB s.data.toList) w) := by
  go_enter Try.func13, Try.ntmps13
  go_wp2_with (go_at_call 19; refine (every_inD _ _).mono ?_; rintro e w1 ⟨rfl, hbel⟩)
  go_ret
  exact ⟨rfl, hbel⟩

set_option maxRecDepth 100000 in
theorem plain_any (s : ByteArray) (w : World) :
    Calls Try.prog 15 #[.string s] w (EveryEnd (plaB s.data.toList) w) := by
  by_cases h : everyB inP s.data.toList = true
  · have hp := every_pos _ s h
    go_enter Try.func15, Try.ntmps15
    go_wp2_with (go_at_call 19; refine (every_inP _ _).mono ?_; rintro e w1 ⟨rfl, hbel⟩)
    go_ret
    exact ⟨bool_of (plain_true s h hp), hbel⟩
  · have h' : everyB inP s.data.toList = false := by simpa using h
    clear h
    go_enter Try.func15, Try.ntmps15
    go_wp2_with (go_at_call 19; refine (every_inP _ _).mono ?_; rintro e w1 ⟨rfl, hbel⟩)
    go_ret
    exact ⟨bool_of (plain_false s h'), hbel⟩

def AssignEnd (n : Int) (w : World) (e : Ending) (w' : World) : Prop := e = .returned (.int .i64 n) ∧ Below w.heap.size w w'

theorem iter_trans {w w1 : World} {s : ByteArray} {pos : Nat} (h : Below (w.iter s pos).heap.size (w.iter s pos) w1) : Below w.heap.size w w1 :=
  (iter_below w _ s pos rfl).trans (h.mono (by simp [World.iter]))

set_option maxHeartbeats 1000000 in
set_option maxRecDepth 100000 in
theorem assign_any (s : ByteArray) (w : World) :
    Calls Try.prog 17 #[.string s] w (AssignEnd (asg s.data.toList) w) := by
  go_enter Try.func17, Try.ntmps17
  go_wp2
  go_loopw [] (fun w' => ∃ (pos : Nat), w' = w.iter s pos ∧ Free s.data.toList pos) (fun w' => s.size - w'.iterPos w.heap.size)
  case atStart => exact ⟨0, rfl, fun _ _ h => by omega⟩
  case round =>
    obtain ⟨pos, rfl, hu⟩ := hrel
    have HU : Hid (Free s.data.toList pos) := hu
    clear hu
    by_cases hp : pos < s.size
    · by_cases hne : (s[pos]'hp).toNat = 61
      · have hnx : ∀ ty, (Instr.next (.pointer (some ⟨w.heap.size, 0, none⟩)) true ty).run Try.prog (w.iter s pos) = _ := fun ty => run_next_ascii w s pos ty hp (by omega)
        have hz : ((s[pos]'hp).toNat : Int) = 61 := by omega
        have hf : asg s.data.toList = if namB (s.data.toList.take pos) then (pos : Int) else -1 := asg_found _ pos (by simpa using hp) HU.out (UInt8.toNat_inj.mp hne)
        have HF : Hid (asg s.data.toList = if namB (s.data.toList.take pos) then (pos : Int) else -1) := hf
        clear hf HU hne
        by_cases hn : namB (s.data.toList.take pos) = true
        · go_wp2_with (go_at_call 11; refine (name_any _ _).mono ?_; rintro e w1 ⟨rfl, hbel⟩)
          go_ret
          exact ⟨int_of (by rw [HF.out, if_pos hn]), iter_trans hbel⟩
        · have hn' : namB (s.data.toList.take pos) = false := by simpa using hn
          clear hn
          go_wp2_with (go_at_call 11; refine (name_any _ _).mono ?_; rintro e w1 ⟨rfl, hbel⟩)
          go_ret
          exact ⟨int_of (by rw [HF.out, hn', if_neg (by simp)]), iter_trans hbel⟩
      · have hnx : ∀ ty, (Instr.next (.pointer (some ⟨w.heap.size, 0, none⟩)) true ty).run Try.prog (w.iter s pos) = _ := fun ty => run_next_any w s pos ty hp
        have hr := rune_ne s pos hp hne
        have hwd := decode_width s pos hp
        have HF := free_step s pos hp HU.out hne
        have HG : Hid (Free s.data.toList (pos + (Utf8.decode s pos).2)) := HF
        clear HF HU hne
        go_wp2
        go_roundw
        case rel => exact ⟨pos + (Utf8.decode s pos).2, rfl, HG.out⟩
        case measure =>
          simp
          omega
    · have hnx : ∀ ty, (Instr.next (.pointer (some ⟨w.heap.size, 0, none⟩)) true ty).run Try.prog (w.iter s pos) = _ := fun ty => run_next_end w s pos ty hp
      have HE : Hid (asg s.data.toList = -1) := asg_end _ pos (by simpa using hp) HU.out
      clear HU
      go_wp2
      go_ret
      exact ⟨int_of HE.out, iter_below _ _ _ _ rfl⟩

end Go.Proofs.Ytdjjdpllkooklaa.Ch
