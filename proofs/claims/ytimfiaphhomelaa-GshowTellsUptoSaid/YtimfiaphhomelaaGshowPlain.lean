/-
  The text of a grammar as plain data. No program in it.
-/
import Derived.Test.YtimfiaphhomelaaGramPlain
namespace Go.Proofs.Ytimfiaphhomelaa.Sw
open Go.Proofs.Ytimfiaphhomelaa.Gr (Gram nameS checkN ordB leftOf)
set_option linter.unusedVariables false
set_option linter.unusedSimpArgs false

/-- A text of bytes. -/
def str (l : List UInt8) : ByteArray := ⟨l.toArray⟩
theorem str_data (l : List UInt8) : (str l).data.toList = l := by simp [str]
theorem str_size (l : List UInt8) : (str l).size = l.length := by
  show l.toArray.size = l.length
  simp
theorem str_append (a b : List UInt8) : str a ++ str b = str (a ++ b) := It.data_inj (by
  rw [str_data]
  show ((str a) ++ (str b)).data.toList = a ++ b
  rw [ByteArray.data_append, Array.toList_append, str_data, str_data])
theorem str_of (s : ByteArray) : str s.data.toList = s := It.data_inj (str_data _)
theorem str_inj {a b : List UInt8} (h : str a = str b) : a = b := by rw [← str_data a, h, str_data]

def nmL (G : Gram) (s : Int) : List UInt8 := (nameS G s).data.toList
def rightL (G : Gram) (l : List Int) : List UInt8 := l.flatMap fun x => 32 :: nmL G x
def ruleL (G : Gram) (r : Int × List Int) : List UInt8 := nmL G r.1 ++ ([32, 58] ++ rightL G r.2)
def termsL (L : List ByteArray) : List UInt8 := L.flatMap fun s => 32 :: s.data.toList
def tokenL (G : Gram) : List UInt8 := if G.terms.length = 0 then [] else [37, 116, 111, 107, 101, 110] ++ (termsL G.terms ++ [10])
def startL (G : Gram) : List UInt8 := [37, 115, 116, 97, 114, 116, 32] ++ (nmL G G.start ++ [10])
/-- What one rule adds, by the left side ahead of it. -/
def rowL (G : Gram) (R : List (Int × List Int)) (i : Nat) : List UInt8 :=
  if i = 0 then ruleL G (R.getD i (0, [])) else if leftOf R (i - 1) = leftOf R i then [10, 9, 124] ++ rightL G (R.getD i (0, [])).2 else [10, 9, 59, 10] ++ ruleL G (R.getD i (0, []))
def rowsL (G : Gram) (R : List (Int × List Int)) (k : Nat) : List UInt8 := (List.range k).flatMap (rowL G R)
def showL (G : Gram) : List UInt8 := tokenL G ++ (startL G ++ ([37, 37, 10] ++ (rowsL G G.rules G.rules.length ++ [10, 9, 59, 10])))
noncomputable def showS (G : Gram) : ByteArray := if checkN G = 0 ∧ ordB G = true then str (showL G) else str []
def ruleS (G : Gram) (r : Int × List Int) : ByteArray := str (ruleL G r)

theorem rows_succ (G : Gram) (R : List (Int × List Int)) (k : Nat) : rowsL G R (k + 1) = rowsL G R k ++ rowL G R k := by
  simp [rowsL, List.range_succ, List.flatMap_append]
theorem right_take {G : Gram} {l : List Int} {k : Nat} (hk : k < l.length) : rightL G (l.take (k + 1)) = rightL G (l.take k) ++ (32 :: nmL G l[k]) := by
  unfold rightL
  rw [List.take_add_one, List.getElem?_eq_getElem hk, List.flatMap_append]
  simp only [Option.toList_some, List.flatMap_cons, List.flatMap_nil, List.append_nil]
theorem terms_take {L : List ByteArray} {k : Nat} (hk : k < L.length) : termsL (L.take (k + 1)) = termsL (L.take k) ++ (32 :: L[k].data.toList) := by
  unfold termsL
  rw [List.take_add_one, List.getElem?_eq_getElem hk, List.flatMap_append]
  simp only [Option.toList_some, List.flatMap_cons, List.flatMap_nil, List.append_nil]

end Go.Proofs.Ytimfiaphhomelaa.Sw
