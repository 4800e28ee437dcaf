/-
  Plain facts on the grammar of the statement on long words: it may be. No program in it.
-/
import Derived.Test.YtpfokebbpbigdaaLeastInv
namespace Go.Proofs.Ytpfokebbpbigdaa.Le
open Go.Proofs.Ytpfokebbpbigdaa.Gr
set_option linter.unusedVariables false

/-- The name of the i-th nonterminal. -/
def nmI (i : Nat) : ByteArray := ⟨#[110, UInt8.ofNat (97 + i)]⟩
def chainTo (depth many i : Nat) : List (Int × List Int) := (List.range i).map (chainR depth many)
def namesTo (i : Nat) : List ByteArray := (List.range i).map nmI
def chainG (depth many : Nat) : Gram := { terms := [⟨#[65]⟩], nons := namesTo depth, rules := chainTo depth many depth, start := 2 }
theorem chainTo_succ (depth many i : Nat) : chainTo depth many (i + 1) = chainTo depth many i ++ [chainR depth many i] := by simp [chainTo, List.range_succ]
theorem namesTo_succ (i : Nat) : namesTo (i + 1) = namesTo i ++ [nmI i] := by simp [namesTo, List.range_succ]
theorem chainTo_len (depth many i : Nat) : (chainTo depth many i).length = i := by simp [chainTo]
theorem namesTo_len (i : Nat) : (namesTo i).length = i := by simp [namesTo]
theorem chain_is (depth many : Nat) : Chain (chainG depth many) depth many := ⟨rfl, rfl⟩

def fine5 (G : Gram) : Bool := !manyB G && onceB G && knownB G && unlikeB G && ruledB G
theorem chain_fine : ∀ d : Fin 7, ∀ m : Fin 8, fine5 (chainG (d.val + 1) (m.val + 1)) = true := by decide +kernel
theorem names_plain : ∀ i : Fin 7, plnS (nmI i.val) = true := by decide +kernel
theorem chain_check {d m : Nat} (hd : 1 ≤ d) (hd7 : d ≤ 7) (hm : 1 ≤ m) (hm8 : m ≤ 8) : checkN (chainG d m) = 0 := by
  have h := chain_fine ⟨d - 1, by omega⟩ ⟨m - 1, by omega⟩
  have e1 : d - 1 + 1 = d := by omega
  have e2 : m - 1 + 1 = m := by omega
  simp only [e1, e2] at h
  simp only [fine5, Bool.and_eq_true, Bool.not_eq_true'] at h
  obtain ⟨⟨⟨⟨h1, h2⟩, h3⟩, h4⟩, h5⟩ := h
  have hA : plnS ⟨#[65]⟩ = true := by decide +kernel
  have h6 : formB (chainG d m) = true := by
    have hn : (namesTo d).all plnS = true := by
      rw [List.all_eq_true]
      intro s hs
      obtain ⟨i, hi, rfl⟩ := List.mem_map.1 hs
      exact names_plain ⟨i, by have := List.mem_range.1 hi; omega⟩
    unfold formB
    show ((([⟨#[65]⟩] : List ByteArray).all fun s => plnS s || quoS s) && (namesTo d).all plnS) = true
    rw [hn]
    simp [hA]
  simp [checkN, h1, h2, h3, h4, h5, h6]
/-- What its first nonterminal has. -/
theorem chain_word {d m : Nat} (hd : 1 ≤ d) {T : Int → Ans} (ok : OkS (chainG d m) 4096 T) (c : Cls (chainG d m) 4096 T) : (m ^ d ≤ 4096 → isA (T 2) = true ∧ (wordA (T 2)).length = m ^ d ∧ telA (T 2) = ((m ^ d : Nat) : Int)) ∧ (¬ m ^ d ≤ 4096 → T 2 = .far) := by
  have h := (chain_is d m).tells hd ok c
  constructor
  · intro hm
    rw [if_pos hm] at h
    obtain ⟨v, e, hl⟩ := h
    rw [e]
    exact ⟨rfl, hl, by show ((v.length : Nat) : Int) = _; rw [hl]⟩
  · intro hm
    rwa [if_neg hm] at h
theorem pow_le {d m : Nat} (hd : d ≤ 7) (hm1 : 1 ≤ m) (hm : m ≤ 8) : m ^ d ≤ 2097152 :=
  Nat.le_trans (Nat.pow_le_pow_left hm d) (Nat.le_trans (Nat.pow_le_pow_right (by omega) hd) (by decide))

end Go.Proofs.Ytpfokebbpbigdaa.Le
