/-
  What the document's own plain answers of layer 1 are, for every byte and every string that fits a machine: the same class, the same forms, the same place of the sign as are said in plain facts; nothing is written. Condition: the string's length fits a machine's.
-/
import Derived.Test.YtoohnkffclkmhaaCharWalks
namespace Go.Proofs.Ytoohnkffclkmhaa.Ch
open Go.RowKit

/-- All bytes before a place fit, each by its own place. -/
def UptoI (p : Nat → UInt8 → Bool) (l : List UInt8) (k : Nat) : Prop := ∀ j, (h : j < l.length) → j < k → p j l[j] = true

theorem uptoI_zero (p : Nat → UInt8 → Bool) (l : List UInt8) : UptoI p l 0 := fun _ _ h => by omega
theorem uptoI_succ (p : Nat → UInt8 → Bool) (s : ByteArray) (k : Nat) (hk : k < s.size) (h : UptoI p s.data.toList k) (hp : p k (s[k]'hk) = true) : UptoI p s.data.toList (k + 1) := by
  intro j hj hlt
  by_cases e : j = k
  · subst e
    exact hp
  · exact h j hj (by omega)

def nameAt (j : Nat) (b : UInt8) : Bool := cb b == 4 || (cb b == 3 && !(j == 0))
def digAt (_ : Nat) (b : UInt8) : Bool := inD (cb b)
def plaAt (_ : Nat) (b : UInt8) : Bool := inP (cb b)

theorem all_tail (p : Int → Bool) (q : Nat → UInt8 → Bool) (b : UInt8) (r : List UInt8) (k : Nat) (hk : (b :: r).length ≤ k) (h : UptoI q (b :: r) k) (hq : ∀ j c, 0 < j → q j c = true → p (cb c) = true) : (r.all fun c => p (cb c)) = true := by
  rw [List.all_eq_true]
  intro x hx
  obtain ⟨i, hi, rfl⟩ := List.mem_iff_getElem.mp hx
  have := h (i + 1) (by simpa using hi) (by simp at hk; omega)
  exact hq (i + 1) _ (by omega) (by simpa using this)

theorem rname_end (s : ByteArray) (k : Nat) (hk : ¬ k < s.size) (h : UptoI nameAt s.data.toList k) : namB s.data.toList = decide (0 < s.size) := by
  rcases s with ⟨⟨l⟩⟩
  cases l with
  | nil => rfl
  | cons b r =>
    have hk' : (b :: r).length ≤ k := by simp only [ByteArray.size] at hk; simp at hk ⊢; omega
    have h0 : nameAt 0 b = true := h 0 (by simp) (by simp at hk'; omega)
    have ht := all_tail inN nameAt b r k hk' h fun j c _ hc => by
      simp only [nameAt, inN, Bool.or_eq_true, Bool.and_eq_true] at hc ⊢
      rcases hc with hc | hc
      · exact .inl hc
      · exact .inr hc.1
    simp [nameAt] at h0
    simp [namB, h0, ht, ByteArray.size]

theorem rname_fail (s : ByteArray) (k : Nat) (hk : k < s.size) (h : nameAt k (s[k]'hk) = false) : namB s.data.toList = false := by
  rw [Bool.eq_false_iff]
  intro hn
  rcases s with ⟨⟨l⟩⟩
  have hk' : k < l.length := by simpa [ByteArray.size] using hk
  have h' : nameAt k l[k] = false := h
  cases l with
  | nil => simp [namB] at hn
  | cons b r =>
    simp only [namB, Bool.and_eq_true, List.all_eq_true] at hn
    cases k with
    | zero => simp [nameAt, hn.1] at h'
    | succ k =>
      have hi : r[k]'(by simpa using hk') ∈ r := List.getElem_mem _
      have := hn.2 _ hi
      simp [nameAt] at h'
      simp [inN, h'] at this

theorem rdig_end (s : ByteArray) (k : Nat) (hk : ¬ k < s.size) (h : UptoI digAt s.data.toList k) : digB s.data.toList = decide (0 < s.size) := by
  have := every_end inD s k hk h
  unfold digB
  rw [this]
  rcases s with ⟨⟨l⟩⟩
  cases l <;> simp [ByteArray.size]

theorem rdig_fail (s : ByteArray) (k : Nat) (hk : k < s.size) (h : digAt k (s[k]'hk) = false) : digB s.data.toList = false := by
  unfold digB everyB
  rw [upto_not inD s.data.toList k (by simpa using hk) h, Bool.and_false]

theorem rpla_zero (s : ByteArray) (h : ¬ 0 < s.size) : plaB s.data.toList = false := by
  rcases s with ⟨⟨l⟩⟩
  cases l with
  | nil => rfl
  | cons b r => simp [ByteArray.size] at h

theorem rpla_end (s : ByteArray) (k : Nat) (hk : ¬ k < s.size) (h : UptoI plaAt s.data.toList k) (hp : 0 < s.size) : plaB s.data.toList = !(((s[0]'hp).toNat : Int) == 35) := by
  refine plain_true s ?_ hp
  have := every_end inP s k hk h
  rw [this]
  rcases s with ⟨⟨l⟩⟩
  cases l
  · simp [ByteArray.size] at hp
  · rfl

theorem rpla_fail (s : ByteArray) (k : Nat) (hk : k < s.size) (h : plaAt k (s[k]'hk) = false) : plaB s.data.toList = false := by
  refine plain_false s ?_
  unfold everyB
  rw [upto_not inP s.data.toList k (by simpa using hk) h, Bool.and_false]

theorem free_succ (s : ByteArray) (k : Nat) (hk : k < s.size) (h : Free s.data.toList k) (hne : (s[k]'hk).toNat ≠ 61) : Free s.data.toList (k + 1) := by
  intro j hj hlt he
  by_cases e : j = k
  · subst e
    apply hne
    have e : s.data.toList[j] = s[j]'hk := rfl
    rw [← e, he]
    rfl
  · exact h j hj (by omega) he

end Go.Proofs.Ytoohnkffclkmhaa.Ch
