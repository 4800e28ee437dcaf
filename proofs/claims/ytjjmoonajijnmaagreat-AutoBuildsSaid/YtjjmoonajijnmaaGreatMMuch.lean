/-
  How much there is: the statements' own function Much: its number is at least the lists' lengths together.
  What each function of package char answers for every string: its form, and where its sign stands; nothing that was there before is written. No condition but that a string fits a machine.
  What the document's own plain answers of layer 1 are, for every byte and every string that fits a machine: the same class, the same forms, the same place of the sign as are said in plain facts; nothing is written. Condition: the string's length fits a machine's.
  A quoted token: by the program's package gtok and by the plain answers of layer 5; a plain name. Condition: a string's length fits a machine's.
  A quoted token, by the plain answers of layer 5; a plain name, by both sides.
  The form of the names: by the program and by the plain answers.
-/
import Derived.Test.YtjjmoonajijnmaaGreatCharClass
import Derived.Test.YtjjmoonajijnmaaGreatGramAt
import Derived.Test.YtjjmoonajijnmaaGreatMSame
namespace Go.Proofs.YtjjmoonajijnmaaGreat.Ch
open Go.RowKit

theorem iter_below (w w' : World) (s : ByteArray) (pos : Nat) (h : w' = w.iter s pos) : Below w.heap.size w w' := by
  subst h
  exact (Below.refl _ _).alloc (Nat.le_refl _) _

/-- The end of a loop over a string: the answer, and that only the loop's own block is new. -/
def EveryEnd (b : Bool) (w : World) (e : Ending) (w' : World) : Prop := e = .returned (.bool b) ∧ Below w.heap.size w w'

set_option maxHeartbeats 1000000 in
set_option maxRecDepth 100000 in
theorem every_inN (s : ByteArray) (w : World) :
    Calls Tryz.prog 81 #[.string s, .func (.func 82) #[] #[]] w (EveryEnd (everyB inN s.data.toList) w) := by
  go_enter Tryz.func81, Tryz.ntmps81
  go_wp2
  go_loopw [] (fun w' => ∃ (pos : Nat), w' = w.iter s pos ∧ Upto inN s.data.toList pos) (fun w' => s.size - w'.iterPos w.heap.size)
  case atStart => exact ⟨0, rfl, upto_zero _ _⟩
  case round =>
    obtain ⟨pos, rfl, hu⟩ := hrel
    have HU : Hid (Upto inN s.data.toList pos) := hu
    clear hu
    by_cases hp : pos < s.size
    · have hnx : ∀ ty, (Instr.next (.pointer (some ⟨w.heap.size, 0, none⟩)) true ty).run Tryz.prog (w.iter s pos) = _ := fun ty => run_next_any w s pos ty hp
      have hle : ((Utf8.decode s pos).1 : Int) ≤ 2147483647 := by have := decode_le s pos; omega
      have hge : (0 : Int) ≤ ((Utf8.decode s pos).1 : Int) := by omega
      by_cases hq : inN (clsR ((Utf8.decode s pos).1 : Int)) = true
      · go_wp2_with (first | (go_at_call 97; refine (classOf_any _ _ ?_ ?_).mono ?_; exact hge; exact hle; rintro e w' ⟨rfl, rfl⟩) | (go_at_call 82; refine (inName_any _ _).mono ?_; rintro e w' ⟨rfl, rfl⟩))
        have hwd := decode_width s pos hp
        go_roundw
        case rel => exact ⟨pos + (Utf8.decode s pos).2, rfl, every_step inN s pos hp HU.out hq⟩
        case measure =>
          simp
          omega
      · have hq' : inN (clsR ((Utf8.decode s pos).1 : Int)) = false := by simpa using hq
        clear hq
        go_wp2_with (first | (go_at_call 97; refine (classOf_any _ _ ?_ ?_).mono ?_; exact hge; exact hle; rintro e w' ⟨rfl, rfl⟩) | (go_at_call 82; refine (inName_any _ _).mono ?_; rintro e w' ⟨rfl, rfl⟩))
        go_ret
        exact ⟨bool_of (every_fail inN s pos hp hq'), iter_below _ _ _ _ rfl⟩
    · have hnx : ∀ ty, (Instr.next (.pointer (some ⟨w.heap.size, 0, none⟩)) true ty).run Tryz.prog (w.iter s pos) = _ := fun ty => run_next_end w s pos ty hp
      have hee : everyB inN s.data.toList = !s.toList.isEmpty := by rw [ByteArray.toList_eq]; exact every_end inN s pos hp HU.out
      have HE : Hid (everyB inN s.data.toList = !s.toList.isEmpty) := hee
      clear HU hee
      go_wp2
      go_ret
      exact ⟨bool_of HE.out, iter_below _ _ _ _ rfl⟩

theorem every_pos (p : Int → Bool) (s : ByteArray) (h : everyB p s.data.toList = true) : 0 < s.size := by
  rcases s with ⟨⟨l⟩⟩
  cases l with
  | nil => simp [everyB] at h
  | cons b r => simp [ByteArray.size]

theorem head_form (s : ByteArray) (h : 0 < s.size) : ∃ b r, s.data.toList = b :: r ∧ s[0] = b := by
  rcases s with ⟨⟨l⟩⟩
  cases l with
  | nil => simp [ByteArray.size] at h
  | cons b r => exact ⟨b, r, rfl, rfl⟩

theorem name_false (s : ByteArray) (h : everyB inN s.data.toList = false) : namB s.data.toList = false := by rw [every_name, h, Bool.false_and]
theorem name_true (s : ByteArray) (h : everyB inN s.data.toList = true) (hp : 0 < s.size) : namB s.data.toList = (cls ((s[0]'hp).toNat : Int) == 4) := by
  obtain ⟨b, r, he, hb⟩ := head_form s hp
  rw [every_name, h, Bool.true_and, hb, he]
  rfl
theorem plain_false (s : ByteArray) (h : everyB inP s.data.toList = false) : plaB s.data.toList = false := by rw [every_plain, h, Bool.false_and]
theorem plain_true (s : ByteArray) (h : everyB inP s.data.toList = true) (hp : 0 < s.size) : plaB s.data.toList = !(((s[0]'hp).toNat : Int) == 35) := by
  obtain ⟨b, r, he, hb⟩ := head_form s hp
  rw [every_plain, h, Bool.true_and, hb, he]
  simp only
  congr 1
  rw [Bool.eq_iff_iff, beq_iff_eq, beq_iff_eq]
  constructor
  · intro e; subst e; rfl
  · intro e
    have e' : b.toNat = 35 := by omega
    exact UInt8.toNat_inj.mp e'

theorem byte_le (b : UInt8) : ((b.toNat : Int)) ≤ 255 := by have := b.toNat_lt; omega

/-- A step of the decoding at a byte that is no equals sign. -/
theorem free_step (s : ByteArray) (pos : Nat) (hp : pos < s.size) (h : Free s.data.toList pos) (hne : (s[pos]'hp).toNat ≠ 61) : Free s.data.toList (pos + (Utf8.decode s pos).2) := by
  intro j hj hlt he
  by_cases hb : j < pos
  · exact h j hj hb he
  · by_cases ha : (s[pos]'hp).toNat < 128
    · rw [decode_ascii s pos hp ha] at hlt
      simp only at hlt
      obtain rfl : j = pos := by omega
      apply hne
      have e : s.data.toList[j] = s[j]'hp := rfl
      rw [← e, he]
      rfl
    · have hc := decode_cover s pos hp (by omega) (j - pos) (by omega)
      rw [show pos + (j - pos) = j by omega] at hc
      rw [get_bang s j hc.1] at hc
      have e : s.data.toList[j] = s[j]'hc.1 := rfl
      have h2 := hc.2
      rw [← e, he] at h2
      exact absurd h2 (by decide)

theorem rune_ne (s : ByteArray) (pos : Nat) (hp : pos < s.size) (hne : (s[pos]'hp).toNat ≠ 61) : ((Utf8.decode s pos).1 : Int) ≠ 61 := by
  by_cases ha : (s[pos]'hp).toNat < 128
  · rw [decode_ascii s pos hp ha]
    simp only
    omega
  · have := (decode_high s pos hp (by omega)).1
    omega

theorem take_data (s : ByteArray) (k : Nat) : (s.extract 0 k).data.toList = s.data.toList.take k := by
  simp [ByteArray.data_extract]

set_option maxRecDepth 100000 in
theorem name_any (s : ByteArray) (w : World) :
    Calls Tryz.prog 69 #[.string s] w (EveryEnd (namB s.data.toList) w) := by
  by_cases h : everyB inN s.data.toList = true
  · have hp := every_pos _ s h
    have hb := byte_le (s[0]'hp)
    go_enter Tryz.func69, Tryz.ntmps69
    go_wp2_with (first | (go_at_call 81; refine (every_inN _ _).mono ?_; rintro e w1 ⟨rfl, hbel⟩) | (go_at_call 83; refine (class_any _ _ ?_ ?_).mono ?_; omega; exact hb; rintro e w2 ⟨rfl, rfl⟩))
    go_ret
    exact ⟨bool_of (name_true s h hp), hbel⟩
  · have h' : everyB inN s.data.toList = false := by simpa using h
    clear h
    go_enter Tryz.func69, Tryz.ntmps69
    go_wp2_with (go_at_call 81; refine (every_inN _ _).mono ?_; rintro e w1 ⟨rfl, hbel⟩)
    go_ret
    exact ⟨bool_of (name_false s h'), hbel⟩

def AssignEnd (n : Int) (w : World) (e : Ending) (w' : World) : Prop := e = .returned (.int .i64 n) ∧ Below w.heap.size w w'

theorem iter_trans {w w1 : World} {s : ByteArray} {pos : Nat} (h : Below (w.iter s pos).heap.size (w.iter s pos) w1) : Below w.heap.size w w1 :=
  (iter_below w _ s pos rfl).trans (h.mono (by simp [World.iter]))

end Go.Proofs.YtjjmoonajijnmaaGreat.Ch

namespace Go.Proofs.YtjjmoonajijnmaaGreat.Ch
open Go.RowKit

set_option maxHeartbeats 2000000 in
set_option maxRecDepth 100000 in
theorem rclass_any (x : Int) (w : World) :
    Calls Tryz.prog 95 #[.int .u8 x] w fun e w' => e = .returned (.int .i64 (cls x)) ∧ w = w' := by
  go_enter Tryz.func95, Tryz.ntmps95
  go_wp2
  all_goals
    go_ret
    refine ⟨int_of ?_, rfl⟩
    go_light
    simp only [beq_iff_eq, beq_eq_false_iff_ne, ne_eq] at *
    unfold cls
    repeat' split
    all_goals omega

/-- All bytes before a place fit, each by its own place. -/
def UptoI (p : Nat → UInt8 → Bool) (l : List UInt8) (k : Nat) : Prop := ∀ j, (h : j < l.length) → j < k → p j l[j] = true

theorem uptoI_zero (p : Nat → UInt8 → Bool) (l : List UInt8) : UptoI p l 0 := fun _ _ h => by omega
theorem uptoI_succ (p : Nat → UInt8 → Bool) (s : ByteArray) (k : Nat) (hk : k < s.size) (h : UptoI p s.data.toList k) (hp : p k (s[k]'hk) = true) : UptoI p s.data.toList (k + 1) := by
  intro j hj hlt
  by_cases e : j = k
  · subst e
    exact hp
  · exact h j hj (by omega)

def nameAt (j : Nat) (b : UInt8) : Bool := cb b == 4 || (cb b == 3 && !(j == 0))
def digAt (_ : Nat) (b : UInt8) : Bool := inD (cb b)
def plaAt (_ : Nat) (b : UInt8) : Bool := inP (cb b)

theorem all_tail (p : Int → Bool) (q : Nat → UInt8 → Bool) (b : UInt8) (r : List UInt8) (k : Nat) (hk : (b :: r).length ≤ k) (h : UptoI q (b :: r) k) (hq : ∀ j c, 0 < j → q j c = true → p (cb c) = true) : (r.all fun c => p (cb c)) = true := by
  rw [List.all_eq_true]
  intro x hx
  obtain ⟨i, hi, rfl⟩ := List.mem_iff_getElem.mp hx
  have := h (i + 1) (by simpa using hi) (by simp at hk; omega)
  exact hq (i + 1) _ (by omega) (by simpa using this)

theorem rname_end (s : ByteArray) (k : Nat) (hk : ¬ k < s.size) (h : UptoI nameAt s.data.toList k) : namB s.data.toList = decide (0 < s.size) := by
  rcases s with ⟨⟨l⟩⟩
  cases l with
  | nil => rfl
  | cons b r =>
    have hk' : (b :: r).length ≤ k := by simp only [ByteArray.size] at hk; simp at hk ⊢; omega
    have h0 : nameAt 0 b = true := h 0 (by simp) (by simp at hk'; omega)
    have ht := all_tail inN nameAt b r k hk' h fun j c _ hc => by
      simp only [nameAt, inN, Bool.or_eq_true, Bool.and_eq_true] at hc ⊢
      rcases hc with hc | hc
      · exact .inl hc
      · exact .inr hc.1
    simp [nameAt] at h0
    simp [namB, h0, ht, ByteArray.size]

theorem rname_fail (s : ByteArray) (k : Nat) (hk : k < s.size) (h : nameAt k (s[k]'hk) = false) : namB s.data.toList = false := by
  rw [Bool.eq_false_iff]
  intro hn
  rcases s with ⟨⟨l⟩⟩
  have hk' : k < l.length := by simpa [ByteArray.size] using hk
  have h' : nameAt k l[k] = false := h
  cases l with
  | nil => simp [namB] at hn
  | cons b r =>
    simp only [namB, Bool.and_eq_true, List.all_eq_true] at hn
    cases k with
    | zero => simp [nameAt, hn.1] at h'
    | succ k =>
      have hi : r[k]'(by simpa using hk') ∈ r := List.getElem_mem _
      have := hn.2 _ hi
      simp [nameAt] at h'
      simp [inN, h'] at this

theorem rdig_end (s : ByteArray) (k : Nat) (hk : ¬ k < s.size) (h : UptoI digAt s.data.toList k) : digB s.data.toList = decide (0 < s.size) := by
  have := every_end inD s k hk h
  unfold digB
  rw [this]
  rcases s with ⟨⟨l⟩⟩
  cases l <;> simp [ByteArray.size]

theorem rdig_fail (s : ByteArray) (k : Nat) (hk : k < s.size) (h : digAt k (s[k]'hk) = false) : digB s.data.toList = false := by
  unfold digB everyB
  rw [upto_not inD s.data.toList k (by simpa using hk) h, Bool.and_false]

theorem rpla_zero (s : ByteArray) (h : ¬ 0 < s.size) : plaB s.data.toList = false := by
  rcases s with ⟨⟨l⟩⟩
  cases l with
  | nil => rfl
  | cons b r => simp [ByteArray.size] at h

theorem rpla_end (s : ByteArray) (k : Nat) (hk : ¬ k < s.size) (h : UptoI plaAt s.data.toList k) (hp : 0 < s.size) : plaB s.data.toList = !(((s[0]'hp).toNat : Int) == 35) := by
  refine plain_true s ?_ hp
  have := every_end inP s k hk h
  rw [this]
  rcases s with ⟨⟨l⟩⟩
  cases l
  · simp [ByteArray.size] at hp
  · rfl

theorem rpla_fail (s : ByteArray) (k : Nat) (hk : k < s.size) (h : plaAt k (s[k]'hk) = false) : plaB s.data.toList = false := by
  refine plain_false s ?_
  unfold everyB
  rw [upto_not inP s.data.toList k (by simpa using hk) h, Bool.and_false]

set_option maxHeartbeats 1000000 in
set_option maxRecDepth 100000 in
theorem rname_any (s : ByteArray) (w : World) (hs : s.size ≤ maxLen) :
    Calls Tryz.prog 78 #[.string s] w fun e w' => e = .returned (.bool (namB s.data.toList)) ∧ w = w' := by
  unfold maxLen at hs
  go_enter Tryz.func78, Tryz.ntmps78
  go_wp2
  go_loop [3] (fun i => ∃ k : Nat, k ≤ s.size ∧ i = .int .i64 k ∧ UptoI nameAt s.data.toList k) (fun i => s.size - (intOf i).toNat)
  case atStart => exact ⟨0, by omega, rfl, uptoI_zero _ _⟩
  case round =>
    obtain ⟨k, hk, rfl, hu⟩ := hrel
    have HU : Hid (UptoI nameAt s.data.toList k) := hu
    clear hu
    by_cases hlt : k < s.size
    · by_cases c4 : cls ((s[k]'hlt).toNat : Int) = 4
      · have HS : Hid (UptoI nameAt s.data.toList (k + 1)) := uptoI_succ _ s k hlt HU.out (by simp [nameAt, cb, c4])
        clear HU
        go_wp2_with (go_at_call 95; refine (rclass_any _ _).mono ?_; rintro e w' ⟨rfl, rfl⟩)
        go_round
        case rel => exact ⟨k + 1, by omega, by go_num, HS.out⟩
        case measure => simp [intOf]; omega
      · by_cases c3 : cls ((s[k]'hlt).toNat : Int) = 3
        · by_cases hz : k = 0
          · have HF : Hid (namB s.data.toList = false) := rname_fail s k hlt (by subst hz; simp [nameAt, cb, c4])
            clear HU
            subst hz
            go_wp2_with (go_at_call 95; refine (rclass_any _ _).mono ?_; rintro e w' ⟨rfl, rfl⟩)
            go_ret
            exact ⟨bool_of HF.out, rfl⟩
          · have HS : Hid (UptoI nameAt s.data.toList (k + 1)) := uptoI_succ _ s k hlt HU.out (by simp [nameAt, cb, c3, hz])
            clear HU
            go_wp2_with (go_at_call 95; refine (rclass_any _ _).mono ?_; rintro e w' ⟨rfl, rfl⟩)
            go_round
            case rel => exact ⟨k + 1, by omega, by go_num, HS.out⟩
            case measure => simp [intOf]; omega
        · have HF : Hid (namB s.data.toList = false) := rname_fail s k hlt (by simp [nameAt, cb, c4, c3])
          clear HU
          go_wp2_with (go_at_call 95; refine (rclass_any _ _).mono ?_; rintro e w' ⟨rfl, rfl⟩)
          go_ret
          exact ⟨bool_of HF.out, rfl⟩
    · have HE : Hid (namB s.data.toList = decide (0 < s.size)) := rname_end s k hlt HU.out
      clear HU
      by_cases h0 : 0 < s.size
      · go_wp2
        go_ret
        exact ⟨bool_of (by rw [HE.out, decide_eq_true h0]), rfl⟩
      · go_wp2
        go_ret
        exact ⟨bool_of (by rw [HE.out, decide_eq_false h0]), rfl⟩

theorem free_succ (s : ByteArray) (k : Nat) (hk : k < s.size) (h : Free s.data.toList k) (hne : (s[k]'hk).toNat ≠ 61) : Free s.data.toList (k + 1) := by
  intro j hj hlt he
  by_cases e : j = k
  · subst e
    apply hne
    have e : s.data.toList[j] = s[j]'hk := rfl
    rw [← e, he]
    rfl
  · exact h j hj (by omega) he

end Go.Proofs.YtjjmoonajijnmaaGreat.Ch

namespace Go.Proofs.YtjjmoonajijnmaaGreat.Gr
open Go.RowKit Go.Maps
set_option linter.unusedVariables false

def headB (s : ByteArray) : Bool := s.data.toList.head? == some 39
theorem head_yes {s : ByteArray} (h : headB s = true) : ∃ h : 0 < s.size, (s[0]'h).toNat = 39 := by
  rcases s with ⟨⟨l⟩⟩
  cases l with
  | nil => simp [headB] at h
  | cons b r =>
    simp [headB] at h
    subst h
    exact ⟨by simp [ByteArray.size], rfl⟩
theorem head_no {s : ByteArray} (h : headB s = false) : ¬ ∃ h : 0 < s.size, (s[0]'h).toNat = 39 := by
  rintro ⟨h0, h1⟩
  rcases s with ⟨⟨l⟩⟩
  cases l with
  | nil => simp [ByteArray.size] at h0
  | cons b r =>
    simp [headB] at h
    exact h (UInt8.toNat_inj.mp h1)
theorem head_one (s : ByteArray) : ((s.extract 0 1).toList == [39]) = headB s := by
  rw [ByteArray.toList_eq, Ch.take_data]
  rcases s with ⟨⟨l⟩⟩
  cases l with
  | nil => rfl
  | cons b r => simp [headB]

theorem prefix_any (s : ByteArray) (w : World) : Calls Tryz.prog 84 #[.string s, .string ⟨#[39]⟩] w fun e w' => e = .returned (.bool (headB s)) ∧ w = w' := by
  by_cases h0 : 0 < s.size
  · have E := Lib.hid (head_one s)
    go_enter Tryz.func84, Tryz.ntmps84
    go_wp2
    go_ret
    exact ⟨bool_of E.out.symm, rfl⟩
  · have E := Lib.hid (show headB s = false by
      have : s.data.toList = [] := by
        have : s.data.toList.length = s.size := rfl
        exact List.eq_nil_of_length_eq_zero (by omega)
      unfold headB
      rw [this]; rfl)
    go_enter Tryz.func84, Tryz.ntmps84
    go_wp2
    go_ret
    exact ⟨bool_of E.out, rfl⟩
theorem hasPrefix_any (s : ByteArray) (w : World) : Calls Tryz.prog 70 #[.string s, .string ⟨#[39]⟩] w fun e w' => e = .returned (.bool (headB s)) ∧ w = w' := by
  have H := Lib.hid (prefix_any s w)
  go_enter Tryz.func70, Tryz.ntmps70
  go_wp2_with (go_at_call 84; refine H.out.mono ?_; rintro e w' ⟨rfl, rfl⟩)
  go_ret
  exact ⟨rfl, rfl⟩

theorem new_fault (e at_ : Int) (w : World) (hne : ¬ e = 0) : Calls Tryz.prog 86 #[.int .i64 e, .int .i64 at_] w fun x w' => x = .returned (.iface 121 (.agg #[.int .i64 e, .int .i64 at_])) ∧ w = w' := by
  go_enter Tryz.func86, Tryz.ntmps86
  go_wp2
  go_ret
  exact ⟨rfl, rfl⟩

/-- No token, and an error. -/
def Wrong (w : World) (e : Ending) (w' : World) : Prop := ∃ x, e = .returned (.tuple #[.int .i64 0, .int .i64 0, .iface 121 x]) ∧ w = w'

theorem wrong_any (s : ByteArray) (at_ : Int) (w : World) : Calls Tryz.prog 85 #[.string s, .int .i64 at_] w (Wrong w) := by
  go_enter Tryz.func85, Tryz.ntmps85
  go_wp2_with (go_at_call 86; refine (new_fault _ _ _ (by decide)).mono ?_; rintro e w' ⟨rfl, rfl⟩)
  go_ret3
  exact ⟨_, rfl, rfl⟩

set_option maxHeartbeats 2000000 in
theorem quoted_yes (s : ByteArray) (k : Nat) (w : World) (hc : Closes s k) (hs : s.size ≤ 140737488355328) :
    Calls Tryz.prog 71 #[.string s, .int .i64 0] w fun e w' => e = .returned (.tuple #[.int .i64 2, .int .i64 ((k : Int) + 1), .nilIface]) ∧ w = w' := by
  have C := Lib.hid hc
  obtain ⟨h2, h24, _, hk, h39⟩ := hc
  have h39' : ((s[k]'hk).toNat : Int) = 39 := by omega
  clear h39
  go_enter Tryz.func71, Tryz.ntmps71
  go_wp2
  go_loop [7] (fun i => ∃ j : Nat, 1 ≤ j ∧ j ≤ k ∧ i = .int .i64 j) (fun i => k - (intOf i).toNat)
  case atStart => exact ⟨1, by omega, by omega, by go_num⟩
  case round =>
    obtain ⟨j, hj1, hj2, rfl⟩ := hrel
    by_cases e : j = k
    · subst e
      go_wp2
      go_ret3
      exact ⟨rfl, rfl⟩
    · have hjs : j < s.size := by omega
      have hi := closes_not C.out hjs hj1 (by omega)
      simp only [insB, decide_eq_true_eq] at hi
      obtain ⟨i1, i2, i3⟩ := hi
      go_wp2
      go_round
      case rel => exact ⟨j + 1, by omega, by omega, by go_num⟩
      case measure => simp [intOf]; omega

set_option maxHeartbeats 2000000 in
theorem quoted_no (s : ByteArray) (w : World) (hc : ¬ ∃ k, Closes s k) (hs : s.size ≤ 140737488355328) :
    Calls Tryz.prog 71 #[.string s, .int .i64 0] w (Wrong w) := by
  have C := Lib.hid hc
  clear hc
  go_enter Tryz.func71, Tryz.ntmps71
  go_wp2
  go_loop [7] (fun i => ∃ j : Nat, 1 ≤ j ∧ j ≤ 24 ∧ i = .int .i64 j ∧ InTo s j) (fun i => 25 - (intOf i).toNat)
  case atStart => exact ⟨1, by omega, by omega, by go_num, inTo_one s⟩
  case round =>
    obtain ⟨j, hj1, hj2, rfl, hI⟩ := hrel
    have I := Lib.hid hI
    clear hI
    by_cases hlt : j < s.size
    · by_cases e1 : ((s[j]'hlt).toNat : Int) < 33
      · have e39 : ¬ ((s[j]'hlt).toNat : Int) = 39 := by omega
        go_wp2_with (go_at_call 85; refine (wrong_any _ _ _).mono ?_; rintro e w' ⟨x, rfl, rfl⟩)
        go_ret3
        exact ⟨_, rfl, rfl⟩
      · by_cases e2 : 126 < ((s[j]'hlt).toNat : Int)
        · have e39 : ¬ ((s[j]'hlt).toNat : Int) = 39 := by omega
          go_wp2_with (go_at_call 85; refine (wrong_any _ _ _).mono ?_; rintro e w' ⟨x, rfl, rfl⟩)
          go_ret3
          exact ⟨_, rfl, rfl⟩
        · by_cases e3 : ((s[j]'hlt).toNat : Int) = 39
          · by_cases e4 : j = 1
            · subst e4
              go_wp2_with (go_at_call 85; refine (wrong_any _ _ _).mono ?_; rintro e w' ⟨x, rfl, rfl⟩)
              go_ret3
              exact ⟨_, rfl, rfl⟩
            · by_cases e5 : 24 ≤ j
              · clear e1 e2
                have e6 : ¬ (j : Int) = 1 := by omega
                go_wp2_with (go_at_call 86; refine (new_fault _ _ _ (by decide)).mono ?_; rintro e w' ⟨rfl, rfl⟩)
                go_ret3
                exact ⟨_, rfl, rfl⟩
              · exact absurd ⟨j, by omega, by omega, I.out, hlt, by omega⟩ C.out
          · by_cases e5 : 24 ≤ j
            · go_wp2_with (go_at_call 86; refine (new_fault _ _ _ (by decide)).mono ?_; rintro e w' ⟨rfl, rfl⟩)
              go_ret3
              exact ⟨_, rfl, rfl⟩
            · have I2 := Lib.hid (inTo_step I.out hlt (by simp only [insB, decide_eq_true_eq]; omega))
              go_wp2
              go_round
              case rel => exact ⟨j + 1, by omega, by omega, by go_num, I2.out⟩
              case measure => simp [intOf]; omega
    · go_wp2_with (go_at_call 86; refine (new_fault _ _ _ (by decide)).mono ?_; rintro e w' ⟨rfl, rfl⟩)
      go_ret3
      exact ⟨_, rfl, rfl⟩

theorem gquoted_any (s : ByteArray) (w : World) (hs : s.size ≤ 140737488355328) : Calls Tryz.prog 51 #[.string s] w fun e w' => e = .returned (.bool (quoS s)) ∧ w = w' := by
  have P := Lib.hid (hasPrefix_any s w)
  cases h0 : headB s with
  | false =>
    rw [h0] at P
    have E := Lib.hid (quo_no (head_no h0))
    go_enter Tryz.func51, Tryz.ntmps51
    go_wp2_with (go_at_call 70; refine P.out.mono ?_; rintro e w' ⟨rfl, rfl⟩)
    go_ret
    exact ⟨bool_of E.out, rfl⟩
  | true =>
    rw [h0] at P
    by_cases hc : ∃ k, Closes s k
    · obtain ⟨k, hc⟩ := hc
      have E := Lib.hid (quo_some (head_yes h0) hc)
      have Q := Lib.hid (quoted_yes s k w hc hs)
      by_cases e : k + 1 = s.size
      · rw [decide_eq_true e] at E
        have e' : ((k : Int) + 1) = (s.size : Int) := by omega
        rw [e'] at Q
        clear hc e e'
        go_enter Tryz.func51, Tryz.ntmps51
        go_wp2_with (first | (go_at_call 70; refine P.out.mono ?_; rintro e w' ⟨rfl, rfl⟩) | (go_at_call 71; refine Q.out.mono ?_; rintro e w' ⟨rfl, rfl⟩))
        go_ret
        exact ⟨bool_of E.out, rfl⟩
      · rw [decide_eq_false e] at E
        have e' : (((k : Int) + 1) == (s.size : Int)) = false := by
          rw [beq_eq_false_iff_ne]
          omega
        clear hc e
        go_enter Tryz.func51, Tryz.ntmps51
        go_wp2_with (first | (go_at_call 70; refine P.out.mono ?_; rintro e w' ⟨rfl, rfl⟩) | (go_at_call 71; refine Q.out.mono ?_; rintro e w' ⟨rfl, rfl⟩))
        go_ret
        exact ⟨bool_of E.out, rfl⟩
    · have E := Lib.hid (quo_none hc)
      have Q := Lib.hid (quoted_no s w hc hs)
      clear hc
      go_enter Tryz.func51, Tryz.ntmps51
      go_wp2_with (first | (go_at_call 70; refine P.out.mono ?_; rintro e w' ⟨rfl, rfl⟩) | (go_at_call 71; refine Q.out.mono ?_; rintro e w' ⟨x, rfl, rfl⟩))
      go_ret
      exact ⟨bool_of E.out, rfl⟩

/-! ### The plain answers -/

theorem rinside_any (x : Int) (w : World) (h0 : 0 ≤ x) (h1 : x ≤ 255) : Calls Tryz.prog 96 #[.int .u8 x] w fun e w' => e = .returned (.bool (insB x)) ∧ w = w' := by
  go_enter Tryz.func96, Tryz.ntmps96
  go_wp2
  all_goals
    go_ret
    refine ⟨bool_of ?_, rfl⟩
    go_light
    unfold insB
    first | (rw [decide_eq_true_iff]; omega) | (rw [decide_eq_false_iff_not]; omega) | (rw [Bool.eq_iff_iff]; simp only [decide_eq_true_eq, bne_iff_ne, ne_eq]; omega)

end Go.Proofs.YtjjmoonajijnmaaGreat.Gr

namespace Go.Proofs.YtjjmoonajijnmaaGreat.Gr
open Go.RowKit Go.Maps
set_option linter.unusedVariables false

/-- A number and a fault come back; nothing that was there is written. -/
def Faulty (n e x : Int) (w : World) (en : Ending) (w' : World) : Prop := en = .returned (.tuple #[.int .i64 n, .agg #[.int .i64 e, .int .i64 x]]) ∧ Below w.heap.size w w'
def SomeFault (w : World) (en : Ending) (w' : World) : Prop := ∃ e x : Int, (e == 0) = false ∧ Faulty 0 e x w en w'

set_option maxHeartbeats 2000000 in
theorem rquoted_yes (s : ByteArray) (k : Nat) (w : World) (hc : Closes s k) (hs : s.size ≤ 140737488355328) :
    Calls Tryz.prog 79 #[.string s, .int .i64 0] w (Faulty ((k : Int) + 1) 0 0 w) := by
  have C := Lib.hid hc
  obtain ⟨h2, h24, _, hk, h39⟩ := hc
  have h39' : ((s[k]'hk).toNat : Int) = 39 := by omega
  have B := Lib.hid (fun o => boxed w o)
  have I39 := Lib.hid (show insB 39 = false by decide)
  clear h39
  go_enter Tryz.func79, Tryz.ntmps79
  go_wp2
  go_loop [6] (fun i => ∃ j : Nat, 1 ≤ j ∧ j ≤ k ∧ i = .int .i64 j) (fun i => k - (intOf i).toNat)
  case atStart => exact ⟨1, by omega, by omega, by go_num⟩
  case round =>
    obtain ⟨j, hj1, hj2, rfl⟩ := hrel
    by_cases e : j = k
    · subst e
      go_wp2_with (go_at_call 96; refine (rinside_any _ _ (by omega) (by omega)).mono ?_; rw [I39.out]; rintro e w' ⟨rfl, rfl⟩)
      exact bodyPost_ret (v := .tuple #[.int .i64 ((j : Int) + 1), .agg #[.int .i64 0, .int .i64 0]]) (by simp [results, Tryz.results79, go_sem]) rfl ⟨rfl, B.out _⟩
    · have hjs : j < s.size := by omega
      have hi := Lib.hid (closes_not C.out hjs hj1 (by omega))
      have hb1 := Ch.byte_le (s[j]'hjs)
      go_wp2_with (go_at_call 96; refine (rinside_any _ _ (by omega) (by omega)).mono ?_; rw [hi.out]; rintro e w' ⟨rfl, rfl⟩)
      go_round
      case rel => exact ⟨j + 1, by omega, by omega, by go_num⟩
      case measure => simp [intOf]; omega

set_option maxHeartbeats 4000000 in
theorem rquoted_no (s : ByteArray) (w : World) (hc : ¬ ∃ k, Closes s k) (hs : s.size ≤ 140737488355328) (hp : 0 < s.size) :
    Calls Tryz.prog 79 #[.string s, .int .i64 0] w (SomeFault w) := by
  have C := Lib.hid hc
  have B := Lib.hid (fun o => boxed w o)
  have I39 := Lib.hid (show insB 39 = false by decide)
  clear hc
  go_enter Tryz.func79, Tryz.ntmps79
  go_wp2
  go_loop [6] (fun i => ∃ j : Nat, 1 ≤ j ∧ j ≤ s.size ∧ i = .int .i64 j ∧ InTo s j) (fun i => s.size - (intOf i).toNat)
  case atStart => exact ⟨1, by omega, by omega, by go_num, inTo_one s⟩
  case round =>
    obtain ⟨j, hj1, hj2, rfl, hI⟩ := hrel
    have I := Lib.hid hI
    clear hI
    by_cases hlt : j < s.size
    · have hb1 := Ch.byte_le (s[j]'hlt)
      cases hi : insB ((s[j]'hlt).toNat : Int) with
      | true =>
        have I2 := Lib.hid (inTo_step I.out hlt hi)
        have HI := Lib.hid hi
        clear hi
        go_wp2_with (go_at_call 96; refine (rinside_any _ _ (by omega) (by omega)).mono ?_; rw [HI.out]; rintro e w' ⟨rfl, rfl⟩)
        go_round
        case rel => exact ⟨j + 1, by omega, by omega, by go_num, I2.out⟩
        case measure => simp [intOf]; omega
      | false =>
        have HI := Lib.hid hi
        clear hi
        by_cases e3 : ((s[j]'hlt).toNat : Int) = 39
        · by_cases e4 : j = 1
          · subst e4
            go_wp2_with (go_at_call 96; refine (rinside_any _ _ (by omega) (by omega)).mono ?_; rw [I39.out]; rintro e w' ⟨rfl, rfl⟩)
            exact bodyPost_ret (v := .tuple #[.int .i64 0, .agg #[.int .i64 2, .int .i64 1]]) (by simp [results, Tryz.results79, go_sem]) rfl ⟨2, 1, rfl, rfl, B.out _⟩
          · by_cases e5 : 24 ≤ j
            · have e6 : ¬ (j : Int) = 1 := by omega
              go_wp2_with (go_at_call 96; refine (rinside_any _ _ (by omega) (by omega)).mono ?_; rw [I39.out]; rintro e w' ⟨rfl, rfl⟩)
              exact bodyPost_ret (v := .tuple #[.int .i64 0, .agg #[.int .i64 5, .int .i64 0]]) (by simp [results, Tryz.results79, go_sem]) rfl ⟨5, 0, rfl, rfl, B.out _⟩
            · exact absurd ⟨j, by omega, by omega, I.out, hlt, by omega⟩ C.out
        · have e7 : (((s[j]'hlt).toNat : Int) != 39) = true := by simpa using e3
          clear e3
          go_wp2_with (go_at_call 96; refine (rinside_any _ _ (by omega) (by omega)).mono ?_; rw [HI.out]; rintro e w' ⟨rfl, rfl⟩)
          exact bodyPost_ret (v := .tuple #[.int .i64 0, .agg #[.int .i64 2, .int .i64 j]]) (by simp [results, Tryz.results79, go_sem]) rfl ⟨2, _, rfl, rfl, B.out _⟩
    · go_wp2_with (go_at_call 96; fail)
      exact bodyPost_ret (v := .tuple #[.int .i64 0, .agg #[.int .i64 4, .int .i64 s.size]]) (by simp [results, Tryz.results79, go_sem]) rfl ⟨4, _, rfl, rfl, B.out _⟩

theorem head_empty {s : ByteArray} (h : ¬ 0 < s.size) : headB s = false := by
  have : s.data.toList = [] := by
    have : s.data.toList.length = s.size := rfl
    exact List.eq_nil_of_length_eq_zero (by omega)
  unfold headB
  rw [this]; rfl
theorem empty_list {s : ByteArray} (h : ¬ 0 < s.size) : s.toList = [] := by
  rw [ByteArray.toList_eq]
  have : s.data.toList.length = s.size := rfl
  exact List.eq_nil_of_length_eq_zero (by omega)
theorem full_list {s : ByteArray} (h : 0 < s.size) : ¬ s.toList = [] := by
  rw [ByteArray.toList_eq]
  intro e
  have : s.data.toList.length = s.size := rfl
  rw [e] at this
  simp at this
  omega

set_option maxHeartbeats 2000000 in
theorem rq_any (s : ByteArray) (w : World) (hs : s.size ≤ 140737488355328) : Calls Tryz.prog 61 #[.string s] w (Is (.bool (quoS s)) w) := by
  by_cases hp : 0 < s.size
  · have hl := full_list hp
    have hl2 : s.toList.isEmpty = false := by simpa using hl
    cases h0 : headB s with
    | false =>
      have E := Lib.hid (quo_no (head_no h0))
      have e0 : (((s[0]'hp).toNat : Int) != 39) = true := by
        rw [bne_iff_ne]
        intro e
        exact head_no h0 ⟨hp, by omega⟩
      clear h0
      go_enter Tryz.func61, Tryz.ntmps61
      go_wp2
      go_ret
      exact ⟨bool_of E.out, .refl _ _⟩
    | true =>
      obtain ⟨_, h39⟩ := head_yes h0
      have h39' : (((s[0]'hp).toNat : Int) != 39) = false := by simp [h39]
      by_cases hc : ∃ k, Closes s k
      · obtain ⟨k, hc⟩ := hc
        have E := Lib.hid (quo_some (head_yes h0) hc)
        have Q := Lib.hid (rquoted_yes s k w hc hs)
        clear h0 h39
        by_cases e : k + 1 = s.size
        · rw [decide_eq_true e] at E
          have e' : ((k : Int) + 1) = (s.size : Int) := by omega
          rw [e'] at Q
          clear hc e e'
          go_enter Tryz.func61, Tryz.ntmps61
          go_wp2_with (go_at_call 79; refine Q.out.mono ?_; rintro e w' ⟨rfl, hb⟩; have HB := Lib.hid hb; clear hb)
          go_ret
          exact ⟨bool_of E.out, step HB.out (boxed _ _)⟩
        · rw [decide_eq_false e] at E
          have e' : (((k : Int) + 1) == (s.size : Int)) = false := by
            rw [beq_eq_false_iff_ne]
            omega
          clear hc e
          go_enter Tryz.func61, Tryz.ntmps61
          go_wp2_with (go_at_call 79; refine Q.out.mono ?_; rintro e w' ⟨rfl, hb⟩; have HB := Lib.hid hb; clear hb)
          go_ret
          exact ⟨bool_of E.out, step HB.out (boxed _ _)⟩
      · have E := Lib.hid (quo_none hc)
        have Q := Lib.hid (rquoted_no s w hc hs hp)
        clear hc h0 h39
        go_enter Tryz.func61, Tryz.ntmps61
        go_wp2_with (go_at_call 79; refine Q.out.mono ?_; rintro e w' ⟨q, x, hq, rfl, hb⟩; have HB := Lib.hid hb; clear hb)
        go_ret
        exact ⟨bool_of E.out, step HB.out (boxed _ _)⟩
  · have hl := empty_list hp
    have E := Lib.hid (quo_no (head_no (head_empty hp)))
    go_enter Tryz.func61, Tryz.ntmps61
    go_wp2
    go_ret
    exact ⟨bool_of E.out, .refl _ _⟩

/-! ### A plain name -/

theorem named_any (s : ByteArray) (w : World) (hs : s.size ≤ 140737488355328) : Calls Tryz.prog 50 #[.string s] w (Is (.bool (plnS s)) w) := by
  have N := Lib.hid (Ch.name_any s w)
  by_cases h : s.size ≤ 24
  · have E := Lib.hid (show plnS s = Ch.namB s.data.toList by simp [plnS, h])
    go_enter Tryz.func50, Tryz.ntmps50
    go_wp2_with (go_at_call 69; refine N.out.mono ?_; rintro e w' ⟨rfl, hb⟩; have HB := Lib.hid hb; clear hb)
    go_ret
    exact ⟨bool_of E.out, HB.out⟩
  · have E := Lib.hid (show plnS s = false by simp [plnS, h])
    go_enter Tryz.func50, Tryz.ntmps50
    go_wp2
    go_ret
    exact ⟨bool_of E.out, .refl _ _⟩

theorem rplain_any (s : ByteArray) (w : World) (hs : s.size ≤ 140737488355328) : Calls Tryz.prog 60 #[.string s] w (Is (.bool (plnS s)) w) := by
  have N := Lib.hid (Ch.rname_any s w (by unfold maxLen; omega))
  cases hn : Ch.namB s.data.toList with
  | false =>
    rw [hn] at N
    have E := Lib.hid (show plnS s = false by simp [plnS, hn])
    clear hn
    go_enter Tryz.func60, Tryz.ntmps60
    go_wp2_with (go_at_call 78; refine N.out.mono ?_; rintro e w' ⟨rfl, rfl⟩)
    go_ret
    exact ⟨bool_of E.out, .refl _ _⟩
  | true =>
    rw [hn] at N
    have E := Lib.hid (show plnS s = decide (s.size ≤ 24) by simp [plnS, hn])
    clear hn
    go_enter Tryz.func60, Tryz.ntmps60
    go_wp2_with (go_at_call 78; refine N.out.mono ?_; rintro e w' ⟨rfl, rfl⟩)
    go_ret
    refine ⟨bool_of ?_, .refl _ _⟩
    rw [E.out, Bool.eq_iff_iff]
    simp only [decide_eq_true_eq]
    omega

end Go.Proofs.YtjjmoonajijnmaaGreat.Gr

namespace Go.Proofs.YtjjmoonajijnmaaGreat.Gr
open Go.RowKit Go.Maps
set_option linter.unusedVariables false

/-- The first k are so. -/
def AllTo {α : Type} (p : α → Bool) (L : List α) (k : Nat) : Prop := ∀ j (h : j < L.length), j < k → p L[j] = true
theorem allTo_zero {α : Type} (p : α → Bool) (L : List α) : AllTo p L 0 := fun _ _ h => absurd h (by omega)
theorem allTo_step {α : Type} {p : α → Bool} {L : List α} {k : Nat} (h : AllTo p L k) (hk : k < L.length) (e : p L[k] = true) : AllTo p L (k + 1) := fun j hj hl => by
  by_cases he : j = k
  · subst he
    exact e
  · exact h j hj (by omega)
theorem all_end {α : Type} {p : α → Bool} {L : List α} {k : Nat} (h : AllTo p L k) (hk : ¬ k < L.length) : L.all p = true := by
  rw [List.all_eq_true]
  intro x hx
  obtain ⟨j, hj, rfl⟩ := List.mem_iff_getElem.1 hx
  exact h j hj (by omega)
theorem all_fail {α : Type} {p : α → Bool} {L : List α} {k : Nat} (hk : k < L.length) (e : p L[k] = false) : L.all p = false := by
  rw [List.all_eq_false]
  exact ⟨_, List.getElem_mem hk, by simp [e]⟩

noncomputable def tokS (s : ByteArray) : Bool := plnS s || quoS s
theorem form_eq (G : Gram) : formB G = (G.terms.all tokS && G.nons.all plnS) := rfl

/-- The k-th string of a list that reads, later. -/
theorem str_at {L : List ByteArray} {a : Option Addr} {w : World} (h : Sep.Reads a (L.map .string) w) {k : Nat} (hk : k < L.length) : ∃ b o, a = some ⟨b, o, none⟩ ∧ w.cell? ⟨b, o + k, none⟩ = some (.string L[k]) :=
  reads_get h (by simp) hk (by simp [hk])

set_option maxHeartbeats 4000000 in
theorem misnamed_any (h : Sh) (G : Gram) (w : World) (k : GAt h G w) :
    Calls Tryz.prog 29 #[gv h G] w (Is (.bool (!formB G)) w) := by
  have t := k.t2
  have n := k.n2
  have TS := Lib.hid k.ok.terms
  have NS := Lib.hid k.ok.nons
  obtain ⟨a1, c1, a2, c2, a3, c3⟩ := h
  have X := Lib.hid (Bx.start ⟨a1, c1, a2, c2, a3, c3⟩ G w 25)
  have HT := Lib.hid (show ∀ w1, Below w.heap.size w w1 → Sep.Reads a1 (G.terms.map .string) w1 from fun w1 (b : Below w.heap.size w w1) => (k.went b).terms)
  have HN := Lib.hid (show ∀ w1, Below w.heap.size w w1 → Sep.Reads a2 (G.nons.map .string) w1 from fun w1 (b : Below w.heap.size w w1) => (k.went b).nons)
  clear k
  have E := Lib.hid (form_eq G)
  unfold gv
  dsimp only
  go_enter Tryz.func29, Tryz.ntmps29
  go_wp2
  go_loopw [10] (fun i wr => ∃ j : Nat, j ≤ G.terms.length ∧ i = .int .i64 j ∧ AllTo tokS G.terms j ∧ Bx w ⟨a1, c1, a2, c2, a3, c3⟩ G wr) (fun i _ => G.terms.length - (intOf i).toNat)
  case atStart => exact ⟨0, Nat.zero_le _, rfl, allTo_zero _ _, X.out⟩
  case round =>
    clear X
    obtain ⟨j, hj, rfl, hA, hX⟩ := hrel
    have A := Lib.hid hA
    have X := Lib.hid hX
    clear hA hX
    by_cases hlt : j < G.terms.length
    · obtain ⟨b, o, rfl, hc⟩ := str_at (HT.out _ X.out.below) hlt
      have hs := TS.out _ (List.getElem_mem hlt)
      have AE := Lib.hid (fun he => allTo_step A.out hlt he)
      have AF := Lib.hid (fun he => all_fail (p := tokS) hlt he)
      generalize G.terms[j] = s at hc hs AE AF
      have P := Lib.hid (fun w1 => named_any s w1 hs)
      have Q := Lib.hid (fun w1 => gquoted_any s w1 hs)
      cases hp : plnS s with
      | true =>
        rw [hp] at P
        have A2 := Lib.hid (AE.out (by simp [tokS, hp]))
        clear hp
        go_wp2_with (go_at_call 50; refine (P.out _).mono ?_; rintro e w1 ⟨rfl, hb⟩; have X := Lib.hid (X.out.went hb); clear hb)
        go_roundw
        case rel => exact ⟨j + 1, by omega, by go_num, A2.out, X.out⟩
        case measure => simp [intOf]; omega
      | false =>
        rw [hp] at P
        cases hq : quoS s with
        | true =>
          rw [hq] at Q
          have A2 := Lib.hid (AE.out (by simp [tokS, hq]))
          clear hp hq
          go_wp2_with (first
            | (go_at_call 50; refine (P.out _).mono ?_; rintro e w1 ⟨rfl, hb⟩; have X := Lib.hid (X.out.went hb); clear hb)
            | (go_at_call 51; refine (Q.out _).mono ?_; rintro e w2 ⟨rfl, rfl⟩))
          go_roundw
          case rel => exact ⟨j + 1, by omega, by go_num, A2.out, X.out⟩
          case measure => simp [intOf]; omega
        | false =>
          rw [hq] at Q
          have F := Lib.hid (AF.out (by simp [tokS, hp, hq]))
          clear hp hq
          go_wp2_with (first
            | (go_at_call 50; refine (P.out _).mono ?_; rintro e w1 ⟨rfl, hb⟩; have X := Lib.hid (X.out.went hb); clear hb)
            | (go_at_call 51; refine (Q.out _).mono ?_; rintro e w2 ⟨rfl, rfl⟩))
          go_ret
          exact ⟨bool_of (by rw [E.out, F.out]; rfl), X.out.below⟩
    · have F1 := Lib.hid (all_end A.out hlt)
      rw [F1.out, Bool.true_and] at E
      obtain ⟨x0, x1, x2, x3⟩ := X.out.box
      clear A F1 HT hj
      go_wp2
      clear x0 x1 x2 x3 hlt
      go_loopw [26] (fun i wr => ∃ j : Nat, j ≤ G.nons.length ∧ i = .int .i64 j ∧ AllTo plnS G.nons j ∧ Bx w ⟨a1, c1, a2, c2, a3, c3⟩ G wr) (fun i _ => G.nons.length - (intOf i).toNat)
      case atStart => exact ⟨0, Nat.zero_le _, rfl, allTo_zero _ _, X.out⟩
      case round =>
        clear X
        obtain ⟨j, hj, rfl, hA, hX⟩ := hrel
        have A := Lib.hid hA
        have X := Lib.hid hX
        clear hA hX
        by_cases hlt : j < G.nons.length
        · obtain ⟨b, o, rfl, hc⟩ := str_at (HN.out _ X.out.below) hlt
          have hs := NS.out _ (List.getElem_mem hlt)
          have AE := Lib.hid (fun he => allTo_step A.out hlt he)
          have AF := Lib.hid (fun he => all_fail (p := plnS) hlt he)
          generalize G.nons[j] = s at hc hs AE AF
          have P := Lib.hid (fun w1 => named_any s w1 hs)
          cases hp : plnS s with
          | true =>
            rw [hp] at P
            have A2 := Lib.hid (AE.out hp)
            clear hp
            go_wp2_with (go_at_call 50; refine (P.out _).mono ?_; rintro e w1 ⟨rfl, hb⟩; have X := Lib.hid (X.out.went hb); clear hb)
            go_roundw
            case rel => exact ⟨j + 1, by omega, by go_num, A2.out, X.out⟩
            case measure => simp [intOf]; omega
          | false =>
            rw [hp] at P
            have F := Lib.hid (AF.out hp)
            clear hp
            go_wp2_with (go_at_call 50; refine (P.out _).mono ?_; rintro e w1 ⟨rfl, hb⟩; have X := Lib.hid (X.out.went hb); clear hb)
            go_ret
            exact ⟨bool_of (by rw [E.out, F.out]; rfl), X.out.below⟩
        · have F := Lib.hid (all_end A.out hlt)
          go_wp2
          go_ret
          exact ⟨bool_of (by rw [E.out, F.out]; rfl), X.out.below⟩

set_option maxHeartbeats 4000000 in
theorem rform_any (h : Sh) (G : Gram) (w : World) (k : GAt h G w) :
    Calls Tryz.prog 39 #[gv h G] w (Is (.bool (formB G)) w) := by
  have t := k.t2
  have n := k.n2
  have TS := Lib.hid k.ok.terms
  have NS := Lib.hid k.ok.nons
  obtain ⟨a1, c1, a2, c2, a3, c3⟩ := h
  have X := Lib.hid (Bx.start ⟨a1, c1, a2, c2, a3, c3⟩ G w 25)
  have HT := Lib.hid (show ∀ w1, Below w.heap.size w w1 → Sep.Reads a1 (G.terms.map .string) w1 from fun w1 (b : Below w.heap.size w w1) => (k.went b).terms)
  have HN := Lib.hid (show ∀ w1, Below w.heap.size w w1 → Sep.Reads a2 (G.nons.map .string) w1 from fun w1 (b : Below w.heap.size w w1) => (k.went b).nons)
  clear k
  have E := Lib.hid (form_eq G)
  unfold gv
  dsimp only
  go_enter Tryz.func39, Tryz.ntmps39
  go_wp2
  go_loopw [3] (fun i wr => ∃ j : Nat, j ≤ G.terms.length ∧ i = .int .i64 j ∧ AllTo tokS G.terms j ∧ Bx w ⟨a1, c1, a2, c2, a3, c3⟩ G wr) (fun i _ => G.terms.length - (intOf i).toNat)
  case atStart => exact ⟨0, Nat.zero_le _, rfl, allTo_zero _ _, X.out⟩
  case round =>
    clear X
    obtain ⟨j, hj, rfl, hA, hX⟩ := hrel
    have A := Lib.hid hA
    have X := Lib.hid hX
    clear hA hX
    obtain ⟨x0, x1, x2, x3⟩ := X.out.box
    by_cases hlt : j < G.terms.length
    · obtain ⟨b, o, rfl, hc⟩ := str_at (HT.out _ X.out.below) hlt
      have hs := TS.out _ (List.getElem_mem hlt)
      have AE := Lib.hid (fun he => allTo_step A.out hlt he)
      have AF := Lib.hid (fun he => all_fail (p := tokS) hlt he)
      generalize G.terms[j] = s at hc hs AE AF
      have P := Lib.hid (fun w1 => rplain_any s w1 hs)
      have Q := Lib.hid (fun w1 => rq_any s w1 hs)
      cases hp : plnS s with
      | true =>
        rw [hp] at P
        have A2 := Lib.hid (AE.out (by simp [tokS, hp]))
        clear hp
        go_wp2_with (go_at_call 60; refine (P.out _).mono ?_; rintro e w1 ⟨rfl, hb⟩; have X := Lib.hid (X.out.went hb); obtain ⟨x0, x1, x2, x3⟩ := X.out.box; have hc := cell_later hb hc; clear hb)
        go_roundw
        case rel => exact ⟨j + 1, by omega, by go_num, A2.out, X.out⟩
        case measure => simp [intOf]; omega
      | false =>
        rw [hp] at P
        cases hq : quoS s with
        | true =>
          rw [hq] at Q
          have A2 := Lib.hid (AE.out (by simp [tokS, hq]))
          clear hp hq
          go_wp2_with (first
            | (go_at_call 60; refine (P.out _).mono ?_; rintro e w1 ⟨rfl, hb⟩; have X := Lib.hid (X.out.went hb); obtain ⟨x0, x1, x2, x3⟩ := X.out.box; have hc := cell_later hb hc; clear hb)
            | (go_at_call 61; refine (Q.out _).mono ?_; rintro e w2 ⟨rfl, hb⟩; have X := Lib.hid (X.out.went hb); clear hb))
          go_roundw
          case rel => exact ⟨j + 1, by omega, by go_num, A2.out, X.out⟩
          case measure => simp [intOf]; omega
        | false =>
          rw [hq] at Q
          have F := Lib.hid (AF.out (by simp [tokS, hp, hq]))
          clear hp hq
          go_wp2_with (first
            | (go_at_call 60; refine (P.out _).mono ?_; rintro e w1 ⟨rfl, hb⟩; have X := Lib.hid (X.out.went hb); obtain ⟨x0, x1, x2, x3⟩ := X.out.box; have hc := cell_later hb hc; clear hb)
            | (go_at_call 61; refine (Q.out _).mono ?_; rintro e w2 ⟨rfl, hb⟩; have X := Lib.hid (X.out.went hb); clear hb))
          go_ret
          exact ⟨bool_of (by rw [E.out, F.out]; rfl), X.out.below⟩
    · have F1 := Lib.hid (all_end A.out hlt)
      rw [F1.out, Bool.true_and] at E
      clear A F1 HT hj
      go_wp2
      clear x0 x1 x2 x3 hlt
      go_loopw [4] (fun i wr => ∃ j : Nat, j ≤ G.nons.length ∧ i = .int .i64 j ∧ AllTo plnS G.nons j ∧ Bx w ⟨a1, c1, a2, c2, a3, c3⟩ G wr) (fun i _ => G.nons.length - (intOf i).toNat)
      case atStart => exact ⟨0, Nat.zero_le _, rfl, allTo_zero _ _, X.out⟩
      case round =>
        clear X
        obtain ⟨j, hj, rfl, hA, hX⟩ := hrel
        have A := Lib.hid hA
        have X := Lib.hid hX
        clear hA hX
        obtain ⟨x0, x1, x2, x3⟩ := X.out.box
        by_cases hlt : j < G.nons.length
        · obtain ⟨b, o, rfl, hc⟩ := str_at (HN.out _ X.out.below) hlt
          have hs := NS.out _ (List.getElem_mem hlt)
          have AE := Lib.hid (fun he => allTo_step A.out hlt he)
          have AF := Lib.hid (fun he => all_fail (p := plnS) hlt he)
          generalize G.nons[j] = s at hc hs AE AF
          have P := Lib.hid (fun w1 => rplain_any s w1 hs)
          cases hp : plnS s with
          | true =>
            rw [hp] at P
            have A2 := Lib.hid (AE.out hp)
            clear hp
            go_wp2_with (go_at_call 60; refine (P.out _).mono ?_; rintro e w1 ⟨rfl, hb⟩; have X := Lib.hid (X.out.went hb); clear hb)
            go_roundw
            case rel => exact ⟨j + 1, by omega, by go_num, A2.out, X.out⟩
            case measure => simp [intOf]; omega
          | false =>
            rw [hp] at P
            have F := Lib.hid (AF.out hp)
            clear hp
            go_wp2_with (go_at_call 60; refine (P.out _).mono ?_; rintro e w1 ⟨rfl, hb⟩; have X := Lib.hid (X.out.went hb); clear hb)
            go_ret
            exact ⟨bool_of (by rw [E.out, F.out]), X.out.below⟩
        · have F := Lib.hid (all_end A.out hlt)
          go_wp2
          go_ret
          exact ⟨bool_of (by rw [E.out, F.out]), X.out.below⟩

end Go.Proofs.YtjjmoonajijnmaaGreat.Gr

namespace Go.Proofs.YtjjmoonajijnmaaGreat.Gr
open Go.RowKit Go.Maps
set_option linter.unusedVariables false

/-- A number comes back that is at least the lists' lengths together; nothing that was there is written. -/
def Much (G : Gram) (w : World) (e : Ending) (w' : World) : Prop := ∃ n : Int, e = .returned (.int .i64 n) ∧ (G.terms.length : Int) + G.nons.length + G.rules.length ≤ n ∧ Below w.heap.size w w'

set_option maxRecDepth 100000 in
set_option maxHeartbeats 8000000 in
theorem much_any (h : Sh) (G : Gram) (w : World) (k : GAt h G w) :
    Calls Tryz.prog 4 #[gv h G] w (Much G w) := by
  have t := k.t2
  have n := k.n2
  have r := k.r2
  obtain ⟨a1, c1, a2, c2, a3, c3⟩ := h
  have X := Lib.hid (boxed w (.cells #[.slice a1 G.terms.length c1, .slice a2 G.nons.length c2, .slice a3 G.rules.length c3, .int .i64 G.start] 25))
  have HT := Lib.hid (show Sep.Reads a1 (G.terms.map .string) (w.alloc (.cells #[.slice a1 G.terms.length c1, .slice a2 G.nons.length c2, .slice a3 G.rules.length c3, .int .i64 G.start] 25)) from (k.went X.out).terms)
  have HN := Lib.hid (show Sep.Reads a2 (G.nons.map .string) (w.alloc (.cells #[.slice a1 G.terms.length c1, .slice a2 G.nons.length c2, .slice a3 G.rules.length c3, .int .i64 G.start] 25)) from (k.went X.out).nons)
  have HR := Lib.hid (show RulesAt a3 G.rules (w.alloc (.cells #[.slice a1 G.terms.length c1, .slice a2 G.nons.length c2, .slice a3 G.rules.length c3, .int .i64 G.start] 25)) from (k.went X.out).rules)
  have TS := Lib.hid k.ok.terms
  have NS := Lib.hid k.ok.nons
  clear k
  unfold gv
  dsimp only
  obtain ⟨S, hS⟩ : ∃ S : Int, S = (G.terms.length : Int) + G.nons.length + G.rules.length := ⟨_, rfl⟩
  have hS0 : 0 ≤ S := by omega
  have hS1 : S ≤ 35184372088832 := by omega
  have HS := Lib.hid hS
  go_enter Tryz.func4, Tryz.ntmps4
  go_wp2
  go_loop [3, 4] (fun v i => ∃ j : Nat, ∃ m : Int, j ≤ G.terms.length ∧ j ≤ 200 ∧ i = .int .i64 j ∧ v = .int .i64 m ∧ S ≤ m ∧ m ≤ S + j * 8796093022208) (fun _ i => 200 - (intOf i).toNat)
  case atStart => exact ⟨0, S, Nat.zero_le _, by omega, rfl, by first | rfl | (rw [HS.out]) | go_num, by omega, by omega⟩
  case round =>
    obtain ⟨j, m, hj, hj2, rfl, rfl, hm1, hm2⟩ := hrel
    by_cases hlt : j < G.terms.length ∧ j < 200
    · obtain ⟨hl1, hl2⟩ := hlt
      obtain ⟨b, o, e, hc⟩ := str_at HT.out hl1
      have hs := TS.out _ (List.getElem_mem hl1)
      subst e
      generalize G.terms[j] = s at hc hs
      clear hS
      go_wp2
      go_round
      case rel => exact ⟨j + 1, m + (s.size : Int) / 20, by omega, by omega, by go_num, by go_num, by omega, by omega⟩
      case measure => simp [intOf]; omega
    · have hb2 : m ≤ S + 1759218604441600 := by omega
      clear hm2
      have fin1 : ∀ (P : Prop), (¬ j < G.terms.length → P) → (j < G.terms.length → ¬ j < 200 → P) → P := fun P f g => by
        by_cases h1 : j < G.terms.length
        · exact g h1 (fun h2 => hlt ⟨h1, h2⟩)
        · exact f h1
      have FIN := Lib.hid fin1
      clear fin1 hlt hj2 hj
      refine FIN.out _ (fun h1 => ?_) (fun h1 h2 => ?_)
      all_goals
        clear hS
        go_wp2
        clear h1
        try clear h2
        go_loop [3, 5] (fun v i => ∃ j : Nat, ∃ m : Int, j ≤ G.nons.length ∧ j ≤ 200 ∧ i = .int .i64 j ∧ v = .int .i64 m ∧ S ≤ m ∧ m ≤ S + 1759218604441600 + j * 8796093022208) (fun _ i => 200 - (intOf i).toNat)
        case atStart => exact ⟨0, m, Nat.zero_le _, by omega, rfl, rfl, by omega, by omega⟩
        case round =>
          clear hm1 hb2 FIN
          obtain ⟨j, m, hj, hj2, rfl, rfl, hm1, hm2⟩ := hrel
          by_cases hlt : j < G.nons.length ∧ j < 200
          · obtain ⟨hl1, hl2⟩ := hlt
            obtain ⟨b, o, e, hc⟩ := str_at HN.out hl1
            have hs := NS.out _ (List.getElem_mem hl1)
            subst e
            generalize G.nons[j] = s at hc hs
            go_wp2
            go_round
            case rel => exact ⟨j + 1, m + (s.size : Int) / 20, by omega, by omega, by go_num, by go_num, by omega, by omega⟩
            case measure => simp [intOf]; omega
          · have hb2 : m ≤ S + 3518437208883200 := by omega
            clear hm2
            have fin1 : ∀ (P : Prop), (¬ j < G.nons.length → P) → (j < G.nons.length → ¬ j < 200 → P) → P := fun P f g => by
              by_cases h1 : j < G.nons.length
              · exact g h1 (fun h2 => hlt ⟨h1, h2⟩)
              · exact f h1
            have FIN := Lib.hid fin1
            clear fin1 hlt hj2 hj
            refine FIN.out _ (fun h1 => ?_) (fun h1 h2 => ?_)
            all_goals
              go_wp2
              clear h1
              try clear h2
              go_loop [3, 6] (fun v i => ∃ j : Nat, ∃ m : Int, j ≤ G.rules.length ∧ j ≤ 400 ∧ i = .int .i64 j ∧ v = .int .i64 m ∧ S ≤ m ∧ m ≤ S + 3518437208883200 + j * 8796093022208) (fun _ i => 400 - (intOf i).toNat)
              case atStart => exact ⟨0, m, Nat.zero_le _, by omega, rfl, rfl, by omega, by omega⟩
              case round =>
                clear hm1 hb2 FIN
                obtain ⟨j, m, hj, hj2, rfl, rfl, hm1, hm2⟩ := hrel
                by_cases hlt : j < G.rules.length ∧ j < 400
                · obtain ⟨hl1, hl2⟩ := hlt
                  obtain ⟨b, o, ra, rc, e, g1, g2, g3, g4, g5⟩ := HR.out j hl1
                  subst e
                  generalize G.rules[j].2 = rr at g2 g3 g4 g5
                  clear g1 g3
                  have hrr : rr.length ≤ 17592186044416 := by omega
                  go_wp2
                  go_round
                  case rel => exact ⟨j + 1, m + (rr.length : Int) / 9, by omega, by omega, by go_num, by go_num, by omega, by omega⟩
                  case measure => simp [intOf]; omega
                · have fin1 : ∀ (P : Prop), (¬ j < G.rules.length → P) → (j < G.rules.length → ¬ j < 400 → P) → P := fun P f g => by
                    by_cases h1 : j < G.rules.length
                    · exact g h1 (fun h2 => hlt ⟨h1, h2⟩)
                    · exact f h1
                  have FIN := Lib.hid fin1
                  clear fin1 hlt hj2 hj hm2
                  refine FIN.out _ (fun h1 => ?_) (fun h1 h2 => ?_)
                  all_goals
                    go_wp2
                    go_ret
                    exact ⟨_, rfl, by rw [← HS.out]; exact hm1, X.out⟩

end Go.Proofs.YtjjmoonajijnmaaGreat.Gr
