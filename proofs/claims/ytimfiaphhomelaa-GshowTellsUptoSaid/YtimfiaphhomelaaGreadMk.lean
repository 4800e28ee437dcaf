/-
  The grammar of a source as plain data: names, rules, the beginning; or the first error. No program in it.
-/
import Derived.Test.YtimfiaphhomelaaGreadPlain
import Derived.Test.YtimfiaphhomelaaGramPlain
import Derived.Lib.Join
namespace Go.Proofs.Ytimfiaphhomelaa.Rd
open Go.Proofs.Ytimfiaphhomelaa.Tk (Tok)
set_option linter.unusedVariables false
set_option linter.unusedSimpArgs false

/-- How far the maker has come: the name of a %start (empty: none yet), terminals, nonterminals, the rules' texts. -/
structure MSt where
  start : ByteArray
  L1 : List ByteArray
  L2 : List ByteArray
  texts : List ByteArray

/-- Something, or an error and its place. -/
inductive Mo (α : Type) where
  | ok (a : α)
  | no (e : Int) (q : Nat)
def Mo.bind {α β : Type} (x : Mo α) (f : α → Mo β) : Mo β := match x with
  | .ok a => f a
  | .no e q => .no e q

/-- A name more, as package intern answers. -/
def putM (L : List ByteArray) (t : Tok) : Mo (List ByteArray) := if It.putE 120 L t.s = 0 then .ok (It.putL 120 L t.s) else .no 7 t.at_

def namesM : List ByteArray → List Tok → Mo (List ByteArray)
  | L, [] => .ok L
  | L, t :: r => if It.isIn L t.s then .no 8 t.at_ else (putM L t).bind fun L' => namesM L' r

def isEmp (s : ByteArray) : Bool := s.size == 0

def declM (lf : List ByteArray) (st : MSt) (d : Decl) : Mo MSt :=
  if d.mark.k = 8 then
    (if isEmp st.start = false then .no 8 d.mark.at_ else if It.isIn lf (headT d.names).s = false then .no 9 (headT d.names).at_ else .ok { st with start := (headT d.names).s })
  else (namesM st.L1 d.names).bind fun L => .ok { st with L1 := L }

def unkB (L1 lf : List ByteArray) (t : Tok) : Bool := (t.k == 1) && (!(It.isIn L1 t.s) && !(It.isIn lf t.s))

def symM (lf L1 : List ByteArray) (t : Tok) (i : Nat) : Mo (List ByteArray) :=
  if unkB L1 lf t then .no 9 t.at_ else if i = 8 then .no 7 t.at_ else if t.k = 2 then putM L1 t else .ok L1

def symsM (lf : List ByteArray) : List ByteArray → List Tok → Nat → Mo (List ByteArray)
  | L1, [], _ => .ok L1
  | L1, t :: r, i => (symM lf L1 t i).bind fun L => symsM lf L r (i + 1)

/-- The text of a rule: its names, a blank between each two. -/
def joinedS (left : Tok) (s : Side) : ByteArray := ⟨(Lib.join ((left.s :: s.syms.map (·.s)).map (·.data.toList)) [32]).toArray⟩

def sideM (lf : List ByteArray) (left : Tok) (st : MSt) (s : Side) : Mo MSt :=
  if It.isIn st.texts (joinedS left s) then .no 8 s.first.at_
  else if unkB st.L1 lf s.first then .no 9 s.first.at_
  else if st.texts.length = 300 then .no 7 s.first.at_
  else (symsM lf st.L1 s.syms 0).bind fun L => .ok { st with L1 := L, texts := st.texts ++ [joinedS left s] }

def sidesM (lf : List ByteArray) (left : Tok) : MSt → List Side → Mo MSt
  | st, [] => .ok st
  | st, s :: r => (sideM lf left st s).bind fun st' => sidesM lf left st' r

def ruleM (lf : List ByteArray) (st : MSt) (R : Rul) : Mo MSt :=
  if It.isIn st.L1 R.left.s then .no 8 R.left.at_ else (putM st.L2 R.left).bind fun L => sidesM lf R.left { st with L2 := L } R.sides

def rulesM (lf : List ByteArray) : MSt → List Rul → Mo MSt
  | st, [] => .ok st
  | st, R :: r => (ruleM lf st R).bind fun st' => rulesM lf st' r

def declsM (lf : List ByteArray) : MSt → List Decl → Mo MSt
  | st, [] => .ok st
  | st, d :: r => (declM lf st d).bind fun st' => declsM lf st' r

/-- The number of a symbol's name. -/
def numI (st : MSt) (s : ByteArray) : Int := if It.isIn st.L1 s then (It.num st.L1 s : Int) + 1 else (st.L1.length : Int) + It.place st.L2 s + 1

/-- A rule for each right side. -/
def rowsI (st : MSt) (R : Rul) : List (Int × List Int) := R.sides.map fun s => (numI st R.left.s, s.syms.map fun t => numI st t.s)

def gramM (st : MSt) (src : Src) : Gr.Gram := ⟨st.L1, st.L2, src.rules.flatMap (rowsI st), if isEmp st.start then (st.L1.length : Int) + 1 else numI st st.start⟩

def leftsM (src : Src) : List ByteArray := src.rules.map (·.left.s)
def st0 : MSt := ⟨⟨#[]⟩, [], [], []⟩
/-- The state behind all declarations and rules. -/
def runM (src : Src) : Mo MSt := (declsM (leftsM src) st0 src.decls).bind fun st => rulesM (leftsM src) st src.rules
def makeM (src : Src) : Mo Gr.Gram := (runM src).bind fun st => .ok (gramM st src)

end Go.Proofs.Ytimfiaphhomelaa.Rd
