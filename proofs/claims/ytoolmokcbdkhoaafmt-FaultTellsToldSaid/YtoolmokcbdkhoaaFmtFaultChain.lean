/-
  Errors as chains in memory: an error made by package fault or by errors.New, within names and wraps; a chain stays what it is where nothing that was there is written; and what the method Error of each answers: a text no longer than the chain allows. Conditions: none but that the chain has at most 40 layers.
-/
import Derived.Test.YtoolmokcbdkhoaaFmtFaultText
import Derived.Deep.RegionHeld3
import Derived.Lib.Hide
import Derived.Below
namespace Go.Proofs.YtoolmokcbdkhoaaFmt.Fa
open Go.RowKit Go.Extern.Stop Go.Stop Go.Extern Go.Kit Go.Lib

/-- A layer of an error: a name that package fault puts around it, or the wrap of another. -/
inductive Lay where
  | named (s : ByteArray)
  | wrap

/-- What lies within: an error made by New, or another's. -/
inductive Base where
  | fault (e at_ : Int)
  | other

/-- The greatest size of one text that is read, and a little more. -/
def big : Nat := 140737488355400
/-- How long the text of a chain of so many layers can be. -/
def tb (n : Nat) : Nat := (n + 1) * big
theorem tb_succ (n : Nat) : tb (n + 1) = tb n + big := by unfold tb; rw [Nat.add_mul (n + 1) 1 big]; omega
theorem tb_zero : tb 0 = big := by unfold tb; omega
theorem tb_le {m n : Nat} (h : m ≤ n) : tb m ≤ tb n := by unfold tb; exact Nat.mul_le_mul_right _ (by omega)
theorem tb_40 : tb 40 = 5770237022571400 := by decide
theorem tb_lt (n : Nat) (h : n ≤ 40) : tb n ≤ 5770237022571400 := by rw [← tb_40]; exact tb_le h

inductive Ch (w : World) : List Lay → Base → Value → Prop where
  | fault (e at_ : Int) : Ch w [] (.fault e at_) (.iface 47 (.agg #[.int .i64 e, .int .i64 at_]))
  | other (p : Nat) (s : ByteArray) (hc : w.cell? ⟨p, 0, none⟩ = some (.string s)) (hs : s.size ≤ 15) : Ch w [] .other (.iface 64 (.pointer (some ⟨p, 0, none⟩)))
  | named (p : Nat) (s : ByteArray) (u : Value) (L : List Lay) (b : Base) (h0 : w.cell? ⟨p, 0, none⟩ = some (.string s)) (h1 : w.cell? ⟨p, 1, none⟩ = some u) (hs : s.size ≤ 140737488355328) (h : Ch w L b u) :
      Ch w (.named s :: L) b (.iface 50 (.pointer (some ⟨p, 0, none⟩)))
  | wrap (p : Nat) (m : ByteArray) (u : Value) (L : List Lay) (b : Base) (h0 : w.cell? ⟨p, 0, none⟩ = some (.string m)) (h1 : w.cell? ⟨p, 1, none⟩ = some u) (hm : m.size ≤ tb L.length + 6) (h : Ch w L b u) :
      Ch w (.wrap :: L) b (.iface 59 (.pointer (some ⟨p, 0, none⟩)))

theorem lt_of_cell {w : World} {p o : Nat} {v : Value} (h : w.cell? ⟨p, o, none⟩ = some v) : p < w.heap.size := World.block_lt_of_cell? _ _ h

theorem Ch.keep {w w' : World} {L : List Lay} {b : Base} {v : Value} (h : Ch w L b v) (hb : Below w.heap.size w w') : Ch w' L b v := by
  induction h with
  | fault e at_ => exact .fault e at_
  | other p s hc hs => exact .other p s (by rw [hb.cell (p := ⟨p, 0, none⟩) (lt_of_cell hc)]; exact hc) hs
  | named p s u L b h0 h1 hs _ ih => exact .named p s u L b (by rw [hb.cell (p := ⟨p, 0, none⟩) (lt_of_cell h0)]; exact h0) (by rw [hb.cell (p := ⟨p, 1, none⟩) (lt_of_cell h1)]; exact h1) hs ih
  | wrap p m u L b h0 h1 hm _ ih => exact .wrap p m u L b (by rw [hb.cell (p := ⟨p, 0, none⟩) (lt_of_cell h0)]; exact h0) (by rw [hb.cell (p := ⟨p, 1, none⟩) (lt_of_cell h1)]; exact h1) hm ih

theorem step {w w1 w2 : World} (h : Below w.heap.size w w1) (k : Below w1.heap.size w1 w2) : Below w.heap.size w w2 := h.trans (k.mono h.size)

/-- A text comes back, no longer than n; nothing that was there is written. -/
def Text (n : Nat) (w : World) (e : Ending) (w' : World) : Prop := ∃ s : ByteArray, e = .returned (.string s) ∧ s.size ≤ n ∧ Below w.heap.size w w'

theorem errno_text (e : Int) (w : World) : Calls Tryf.prog 51 #[.int .i64 e] w (Text big w) := by
  go_enter Tryf.func51, Tryf.ntmps51
  go_wp2
  go_ret
  exact ⟨_, rfl, by decide, Below.refl _ _⟩

theorem fault_text (e at_ : Int) (w : World) : Calls Tryf.prog 52 #[.agg #[.int .i64 e, .int .i64 at_]] w (Text big w) := by
  go_enter Tryf.func52, Tryf.ntmps52
  go_wp2_with (go_at_call 51; refine (errno_text _ _).mono ?_; rintro e w' ⟨s, rfl, hs, hb⟩)
  go_ret
  exact ⟨_, rfl, hs, ((Below.refl _ _).alloc (Nat.le_refl _) _).trans (hb.mono (by simp))⟩

theorem wrap_text (p : Nat) (m : ByteArray) (w : World) (h0 : w.cell? ⟨p, 0, none⟩ = some (.string m)) : Calls Tryf.prog 58 #[.pointer (some ⟨p, 0, none⟩)] w fun e w' => e = .returned (.string m) ∧ w = w' := by
  go_enter Tryf.func58, Tryf.ntmps58
  go_wp2
  go_ret
  exact ⟨rfl, rfl⟩

theorem es_text (p : Nat) (m : ByteArray) (w : World) (h0 : w.cell? ⟨p, 0, none⟩ = some (.string m)) : Calls Tryf.prog 60 #[.pointer (some ⟨p, 0, none⟩)] w fun e w' => e = .returned (.string m) ∧ w = w' := by
  go_enter Tryf.func60, Tryf.ntmps60
  go_wp2
  go_ret
  exact ⟨rfl, rfl⟩

/-- What the method Error of a value is called on. -/
inductive Says : Value → Nat → Value → Prop where
  | fault (x : Value) : Says (.iface 47 x) 52 x
  | pes (x : Value) : Says (.iface 64 x) 60 x
  | pnamed (x : Value) : Says (.iface 50 x) 55 x
  | pwrap (x : Value) : Says (.iface 59 x) 58 x

end Go.Proofs.YtoolmokcbdkhoaaFmt.Fa
