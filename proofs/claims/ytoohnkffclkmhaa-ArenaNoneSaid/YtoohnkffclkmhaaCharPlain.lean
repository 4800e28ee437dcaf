/-
  Plain facts on bytes, with no program in them: the class of a byte by the document's list, the forms of strings over it (names, digits, plain words, where an assignment's sign stands), and what Go's decoding of a string meets at bytes of 128 and above. No condition.
-/
import Derived.Laws.RangeAny
namespace Go.Proofs.Ytoohnkffclkmhaa.Ch

/-- The class of a byte, by the document's list. -/
def cls (x : Int) : Int :=
  if x = 0 then 0
  else if x = 32 ∨ x = 9 then 1
  else if x = 10 then 2
  else if 48 ≤ x ∧ x ≤ 57 then 3
  else if (97 ≤ x ∧ x ≤ 122) ∨ (65 ≤ x ∧ x ≤ 90) ∨ x = 95 then 4
  else if x = 38 ∨ x = 124 ∨ x = 59 ∨ x = 60 ∨ x = 62 ∨ x = 40 ∨ x = 41 then 5
  else if x = 39 ∨ x = 34 ∨ x = 92 ∨ x = 96 then 6
  else if x = 36 then 7
  else 8

def spc (x : Int) : Bool := decide (x = 64 ∨ x = 42 ∨ x = 35 ∨ x = 63 ∨ x = 45 ∨ x = 36 ∨ x = 33)

theorem cls_high (x : Int) (h : 128 ≤ x) : cls x = 8 := by
  unfold cls
  repeat' split
  all_goals first | rfl | omega

def inN (k : Int) : Bool := k == 4 || k == 3
def inD (k : Int) : Bool := k == 3
def inP (k : Int) : Bool := k == 3 || k == 4 || k == 8

/-- The byte at a place, as a number. -/
def cb (b : UInt8) : Int := cls (b.toNat : Int)

def everyB (p : Int → Bool) (l : List UInt8) : Bool := !l.isEmpty && l.all fun b => p (cb b)
def digB (l : List UInt8) : Bool := everyB inD l
def namB : List UInt8 → Bool
  | [] => false
  | b :: r => cb b == 4 && r.all fun c => inN (cb c)
def plaB : List UInt8 → Bool
  | [] => false
  | b :: r => !(b == 35) && inP (cb b) && r.all fun c => inP (cb c)

/-- Where the first equals sign stands, if a name is before it; else -1. -/
def asgFrom (pre : List UInt8) : List UInt8 → Int
  | [] => -1
  | b :: r => if b = 61 then (if namB pre then (pre.length : Int) else -1) else asgFrom (pre ++ [b]) r
def asg (l : List UInt8) : Int := asgFrom [] l

theorem every_name (l : List UInt8) : namB l = (everyB inN l && (match l with | [] => false | b :: _ => cb b == 4)) := by
  cases l with
  | nil => rfl
  | cons b r =>
    simp only [namB, everyB, List.isEmpty_cons, Bool.not_false, Bool.true_and, List.all_cons]
    cases h : (cb b == 4)
    · simp
    · have : inN (cb b) = true := by simp [inN, h]
      simp [this]

theorem every_plain (l : List UInt8) : plaB l = (everyB inP l && (match l with | [] => false | b :: _ => !(b == 35))) := by
  cases l with
  | nil => rfl
  | cons b r =>
    simp only [plaB, everyB, List.isEmpty_cons, Bool.not_false, Bool.true_and, List.all_cons]
    cases (b == 35) <;> simp

/-! ### What a step of Go's decoding passes over -/

theorem get_bang (s : ByteArray) (i : Nat) (h : i < s.size) : s.get! i = s[i]'h := by
  have := get_at s i h
  simpa using this

theorem decode_cover (s : ByteArray) (pos : Nat) (h : pos < s.size) (ha : 128 ≤ (s[pos]'h).toNat) :
    ∀ j, j < (Utf8.decode s pos).2 → pos + j < s.size ∧ 128 ≤ (s.get! (pos + j)).toNat := by
  have hn : ¬ (s[pos]'h).toNat < 128 := by omega
  have h0 : pos + 0 < s.size ∧ 128 ≤ (s.get! (pos + 0)).toNat := by rw [get_at s pos h]; exact ⟨h, ha⟩
  simp only [Utf8.decode, get_at s pos h, hn, if_false]
  have cont : ∀ k, (decide (pos + k < s.size) && (s.get! (pos + k)).toNat / 64 == 2) = true → pos + k < s.size ∧ 128 ≤ (s.get! (pos + k)).toNat := by
    intro k hk
    simp only [Bool.and_eq_true, decide_eq_true_eq, beq_iff_eq] at hk
    exact ⟨hk.1, by omega⟩
  intro j hj
  split at hj
  · rename_i hc
    simp only [Bool.and_eq_true] at hc
    split at hj
    · simp only at hj
      rcases j with _ | _ | j
      · exact h0
      · exact cont 1 (by simpa using hc.2)
      · omega
    · simp only at hj
      rcases j with _ | j
      · exact h0
      · omega
  · split at hj
    · rename_i hc
      simp only [Bool.and_eq_true] at hc
      split at hj
      · simp only at hj
        rcases j with _ | _ | _ | j
        · exact h0
        · exact cont 1 (by simpa using hc.1.2)
        · exact cont 2 (by simpa using hc.2)
        · omega
      · simp only at hj
        rcases j with _ | j
        · exact h0
        · omega
    · split at hj
      · rename_i hc
        simp only [Bool.and_eq_true] at hc
        split at hj
        · simp only at hj
          rcases j with _ | _ | _ | _ | j
          · exact h0
          · exact cont 1 (by simpa using hc.1.1.2)
          · exact cont 2 (by simpa using hc.1.2)
          · exact cont 3 (by simpa using hc.2)
          · omega
        · simp only at hj
          rcases j with _ | j
          · exact h0
          · omega
      · simp only at hj
        rcases j with _ | j
        · exact h0
        · omega

/-- The class that the program gives the decoded rune: that of every byte that the step passes over. -/
def clsR (r : Int) : Int := if 127 < r then 8 else cls r

theorem decode_width (s : ByteArray) (pos : Nat) (h : pos < s.size) : 1 ≤ (Utf8.decode s pos).2 := by
  by_cases ha : (s[pos]'h).toNat < 128
  · rw [decode_ascii s pos h ha]
    exact Nat.le_refl _
  · exact (decode_high s pos h (by omega)).2

theorem decode_class (s : ByteArray) (pos : Nat) (h : pos < s.size) (j : Nat) (h1 : pos ≤ j) (h2 : j < pos + (Utf8.decode s pos).2) :
    ∃ hj : j < s.size, cb (s[j]'hj) = clsR ((Utf8.decode s pos).1 : Int) := by
  by_cases ha : (s[pos]'h).toNat < 128
  · rw [decode_ascii s pos h ha] at h2 ⊢
    simp only at h2
    obtain rfl : j = pos := by omega
    refine ⟨h, ?_⟩
    unfold clsR cb
    rw [if_neg (by simp only; omega)]
  · have hh := decode_high s pos h (by omega)
    have hc := decode_cover s pos h (by omega) (j - pos) (by omega)
    rw [show pos + (j - pos) = j by omega] at hc
    refine ⟨hc.1, ?_⟩
    unfold clsR cb
    rw [if_pos (by omega), ← get_bang s j hc.1]
    exact cls_high _ (by omega)

/-! ### The forms over what has been read so far -/

/-- All classes before a place fit. -/
def Upto (p : Int → Bool) (l : List UInt8) (k : Nat) : Prop := ∀ j, (h : j < l.length) → j < k → p (cb l[j]) = true

theorem upto_zero (p : Int → Bool) (l : List UInt8) : Upto p l 0 := fun _ _ h => by omega

theorem upto_all (p : Int → Bool) (l : List UInt8) (k : Nat) (hk : l.length ≤ k) (h : Upto p l k) : (l.all fun b => p (cb b)) = true := by
  rw [List.all_eq_true]
  intro x hx
  obtain ⟨i, hi, rfl⟩ := List.mem_iff_getElem.mp hx
  exact h i hi (by omega)

theorem upto_not (p : Int → Bool) (l : List UInt8) (j : Nat) (hj : j < l.length) (h : p (cb l[j]) = false) : (l.all fun b => p (cb b)) = false := by
  rw [Bool.eq_false_iff]
  intro hall
  rw [List.all_eq_true] at hall
  rw [hall _ (List.getElem_mem hj)] at h
  cases h

theorem every_end (p : Int → Bool) (s : ByteArray) (k : Nat) (hk : ¬ k < s.size) (h : Upto p s.data.toList k) : everyB p s.data.toList = !s.data.toList.isEmpty := by
  unfold everyB
  rw [upto_all p _ k (by simpa using hk) h, Bool.and_true]

theorem every_step (p : Int → Bool) (s : ByteArray) (pos : Nat) (hp : pos < s.size) (h : Upto p s.data.toList pos) (hr : p (clsR ((Utf8.decode s pos).1 : Int)) = true) :
    Upto p s.data.toList (pos + (Utf8.decode s pos).2) := by
  intro j hj hlt
  by_cases hb : j < pos
  · exact h j hj hb
  · obtain ⟨h1, h2⟩ := decode_class s pos hp j (by omega) hlt
    have : s.data.toList[j] = s[j]'h1 := rfl
    rw [this, h2]
    exact hr

theorem every_fail (p : Int → Bool) (s : ByteArray) (pos : Nat) (hp : pos < s.size) (hr : p (clsR ((Utf8.decode s pos).1 : Int)) = false) : everyB p s.data.toList = false := by
  have hw := decode_width s pos hp
  obtain ⟨h1, h2⟩ := decode_class s pos hp pos (by omega) (by omega)
  unfold everyB
  have : (s.data.toList.all fun b => p (cb b)) = false := upto_not p _ pos (by simpa using hp) (by
    have e : s.data.toList[pos]'(by simpa using hp) = s[pos]'h1 := rfl
    rw [e, h2]
    exact hr)
  rw [this, Bool.and_false]

/-! ### The first equals sign -/

theorem asgFrom_none (l pre : List UInt8) (h : ∀ b ∈ l, b ≠ 61) : asgFrom pre l = -1 := by
  induction l generalizing pre with
  | nil => rfl
  | cons b r ih =>
    rw [asgFrom, if_neg (h b (by simp))]
    exact ih _ fun c hc => h c (by simp [hc])

theorem asgFrom_at (l r pre : List UInt8) (h : ∀ b ∈ l, b ≠ 61) : asgFrom pre (l ++ 61 :: r) = if namB (pre ++ l) then ((pre ++ l).length : Int) else -1 := by
  induction l generalizing pre with
  | nil => simp [asgFrom]
  | cons b t ih =>
    rw [List.cons_append, asgFrom, if_neg (h b (by simp)), ih _ fun c hc => h c (by simp [hc])]
    simp

theorem asg_none (l : List UInt8) (h : ∀ b ∈ l, b ≠ 61) : asg l = -1 := asgFrom_none l [] h
theorem asg_at (l r : List UInt8) (h : ∀ b ∈ l, b ≠ 61) : asg (l ++ 61 :: r) = if namB l then (l.length : Int) else -1 := by
  have := asgFrom_at l r [] h
  simpa [asg] using this

theorem split_at (l : List UInt8) (k : Nat) (hk : k < l.length) : l = l.take k ++ l[k] :: l.drop (k + 1) := by
  rw [List.getElem_cons_drop, List.take_append_drop]

/-- None of the bytes before a place is an equals sign. -/
def Free (l : List UInt8) (k : Nat) : Prop := ∀ j, (h : j < l.length) → j < k → l[j] ≠ 61

theorem free_take (l : List UInt8) (k : Nat) (h : Free l k) : ∀ b ∈ l.take k, b ≠ 61 := by
  intro b hb
  obtain ⟨i, hi, rfl⟩ := List.mem_iff_getElem.mp hb
  have h1 : i < l.length ∧ i < k := by
    have := hi
    simp at this
    omega
  rw [List.getElem_take]
  exact h i h1.1 h1.2

theorem asg_end (l : List UInt8) (k : Nat) (hk : l.length ≤ k) (h : Free l k) : asg l = -1 :=
  asg_none l fun b hb => by
    have := free_take l k h b
    rw [List.take_of_length_le hk] at this
    exact this hb

theorem asg_found (l : List UInt8) (k : Nat) (hk : k < l.length) (h : Free l k) (he : l[k] = 61) : asg l = if namB (l.take k) then (k : Int) else -1 := by
  have e := asg_at (l.take k) (l.drop (k + 1)) (free_take l k h)
  rw [← he, ← split_at l k hk] at e
  rw [e, List.length_take, Nat.min_eq_left (Nat.le_of_lt hk)]

end Go.Proofs.Ytoohnkffclkmhaa.Ch
