/-
  What fmt.Errorf's text is at the two formats that the statements of layer 2 use, with one wrapped error: the words before the colon and the wrapped error's own text; and so how long it is. Condition: the wrapped error's text has fewer than 2^62 bytes. (The text is told by the kit's Lean function for fmt, tested against real Go, not proved from fmt's source.)
-/
import Derived.Test.YtoolmokcbdkhoaaFmtFaultFacts
import Derived.Stop.FmtTextKit
import Derived.Stop.FmtTextVerbs
import Derived.Stop.Told
import Derived.Stop.Texts
namespace Go.Proofs.YtoolmokcbdkhoaaFmt.Fa
open Go.RowKit Go.Extern.Stop Go.Stop Go.Extern Go.Kit

def fmtB (y : Bool) : List UInt8 := if y then [121, 58, 32, 37, 119] else [109, 111, 114, 101, 58, 32, 37, 119]
def preB (y : Bool) : List UInt8 := if y then [121, 58, 32] else [109, 111, 114, 101, 58, 32]
def tyF : List UInt8 := 19 :: 0 :: FmtStop.pack "fault.fault".toByteArray.data.toList
def tyN : List UInt8 := 19 :: 0 :: FmtStop.pack "*fault.named".toByteArray.data.toList

theorem parse_y : (FmtText.parse [121, 58, 32, 37, 119]).map FmtText.glue = some [.lit [121, 58, 32], .verb {} 119] := by rfl
theorem parse_more : (FmtText.parse [109, 111, 114, 101, 58, 32, 37, 119]).map FmtText.glue = some [.lit [109, 111, 114, 101, 58, 32], .verb {} 119] := by rfl

/-- The four kinds of operand, each as its own text. -/
def Ty (ty : List UInt8) : Prop := ty = tyF ∨ ty = tyN ∨ ty = plain_pwrap ∨ ty = plain_pes

theorem op_ty (ty : List UInt8) (h : Ty ty) (s : List UInt8) : ∃ n, FmtText.operand ty s = some (.said n true false s) := by
  rcases h with rfl | rfl | rfl | rfl
  · exact ⟨_, FmtText.operand_error_at rfl (FmtText.unpack_pack _ (by decide)) s⟩
  · exact ⟨_, FmtText.operand_error_at rfl (FmtText.unpack_pack _ (by decide)) s⟩
  · exact ⟨_, FmtText.operand_plain_at rfl (FmtText.unpack_pack _ (by decide)) s⟩
  · exact ⟨_, FmtText.operand_plain_at rfl (FmtText.unpack_pack _ (by decide)) s⟩

theorem text_any (y : Bool) (ty : List UInt8) (h : Ty ty) (s : List UInt8) : FmtText.text "fmt.errorf" [fmtB y, ty, s] = some (preB y ++ s) := by
  obtain ⟨n, hn⟩ := op_ty ty h s
  cases y
  · show FmtText.text "fmt.errorf" ([109, 111, 114, 101, 58, 32, 37, 119] :: [ty, s]) = some ([109, 111, 114, 101, 58, 32] ++ s)
    rw [FmtText.text_errorf_glued parse_more (FmtText.operands_cons hn FmtText.operands_nil)]
    simp [FmtText.render, FmtText.printArg_w_said]
  · show FmtText.text "fmt.errorf" ([121, 58, 32, 37, 119] :: [ty, s]) = some ([121, 58, 32] ++ s)
    rw [FmtText.text_errorf_glued parse_y (FmtText.operands_cons hn FmtText.operands_nil)]
    simp [FmtText.render, FmtText.printArg_w_said]

/-- What the walks ask of whatever stands in fmt's place: its text is no more than six bytes longer than the wrapped one. -/
def Tells (F : Interp) : Prop := ∀ (y : Bool) (ty s : List UInt8), Ty ty → s.length < 4611686018427387904 → (FmtStop.textOf (F "fmt.errorf" [fmtB y, ty, s] 0)).size ≤ s.length + 6

theorem size_list (b : ByteArray) : b.size = b.data.toList.length := Array.length_toList.symm

theorem tells_told (F : Interp) : Tells F.told := by
  intro y ty s h hs
  have hp : (preB y ++ s).length ≤ s.length + 6 := by cases y <;> simp [preB] <;> omega
  have ht := told_string F (text_any y ty h s) (by omega)
  have e : (FmtStop.textOf (F.told "fmt.errorf" [fmtB y, ty, s] 0)).data.toList = preB y ++ s := by rw [textOf_list, ht]
  rw [size_list, e]
  exact hp

end Go.Proofs.YtoolmokcbdkhoaaFmt.Fa
