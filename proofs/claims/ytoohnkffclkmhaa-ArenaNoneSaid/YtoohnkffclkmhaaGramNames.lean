/-
  The plain answers of layer 6: the list of all names, a name's place, Name, Find.
-/
import Derived.Test.YtoohnkffclkmhaaGramAppend
namespace Go.Proofs.Ytoohnkffclkmhaa.Gr
open Go.RowKit Go.Maps
set_option linter.unusedVariables false

theorem info_string : (Try.prog.info? 9).map (fun i => (i.zero, i.size, i.bytes)) = some (some (.string ByteArray.empty), 1, 16) := by kernel_rfl
theorem strings_oneCell (L : List ByteArray) : ∀ u ∈ L.map Value.string, u.oneCell' = true := by
  intro u hu
  obtain ⟨s, _, rfl⟩ := List.mem_map.1 hu
  rfl
theorem build_nos (w : World) : (Instr.buildSlice 40 0 #[]).run Try.prog w = .ok (.slice (some ⟨w.heap.size, 0, none⟩) 0 0) (w.alloc (.cells #[] 9)) := by kernel_rfl

/-- A new list of strings comes back; nothing that was there is written. -/
def ListedS (L : List ByteArray) (w : World) (e : Ending) (w' : World) : Prop :=
  ∃ a c, e = .returned (.slice a L.length c) ∧ Sep.Reads a (L.map .string) w' ∧ L.length ≤ c ∧ Below w.heap.size w w'

theorem row_cap {w : World} {base n c : Nat} {e : TypeId} {a : Option Addr} {xs : List Value} (h : w.ownsRow base e 1 (.slice a n c) n xs) : n ≤ c := by
  rcases h.2 with ⟨h1, h2⟩ | ⟨g, cap, cur, h1, _, _, h3, _⟩
  · omega
  · simp only [Value.slice.injEq] at h1
    omega

theorem place_le (L : List ByteArray) (s : ByteArray) : -1 ≤ It.place L s ∧ It.place L s ≤ L.length := by
  cases h : It.isIn L s with
  | true => rw [It.place_in h]; have := It.num_le (L := L) (s := s); omega
  | false => rw [It.place_out h]; omega

end Go.Proofs.Ytoohnkffclkmhaa.Gr
