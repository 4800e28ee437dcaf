/-
  Package least: Line, Word, Length. Condition: a list of symbols is within a machine's reach.
-/
import Derived.Test.YtpfokebbpbigdaaLeastJoin
import Derived.Deep.QuietTactic
import Derived.BigQuiet
namespace Go.Proofs.Ytpfokebbpbigdaa.Le
open Go.RowKit Go.Maps
open Go.Proofs.Ytpfokebbpbigdaa.Gr (Gram Is step boxed cell_later drawn ivs iv int_at int_of bool_of)
open Go.Proofs.Ytpfokebbpbigdaa.Rw (Bk IntsV row_shape)
set_option linter.unusedVariables false

/-- What Line answers. -/
def lineA (nl : Bool) (T : Int → Ans) (l : List Int) : Ans := if nl = true then .none else J T l
/-- A list and a yes or no come back; nothing that was there is written. -/
def Lined (a : Ans) (w : World) (e : Ending) (w' : World) : Prop :=
  ∃ ad c, e = .returned (.tuple #[.slice ad (wordA a).length c, .bool (isA a)]) ∧ Sep.Reads ad (ivs (wordA a)) w' ∧ Below w.heap.size w w'
theorem line_one {nl : Bool} {v : Value} {T : Int → Ans} {w : World} (h : VAt nl v T w) (s : Int) : lineA nl T [s] = T s := by
  rcases h with ⟨rfl, _, rfl⟩ | ⟨rfl, p, q, n, _, h⟩
  · rfl
  · unfold lineA
    rw [if_neg (by decide)]
    exact join_one' h.ok.bnd s
theorem reads_one (w : World) (s : Int) : Sep.Reads (some ⟨w.heap.size, 0, none⟩) (ivs [s]) (w.alloc (.cells #[.int .i64 s] 3)) := fun i hi => by
  have : i = 0 := by simp [ivs] at hi; omega
  subst this
  exact ⟨w.heap.size, 0, rfl, (Bk.new w #[.int .i64 s] 3 _ rfl).cell rfl⟩

theorem tuple_of {v : Value} {x r : Bool} (h : x = r) : Ending.returned (.tuple #[v, .bool r]) = .returned (.tuple #[v, .bool x]) := by rw [h]
theorem drawnN (w : World) (n : Nat) : Below w.heap.size w (w.drewN n) := ⟨rfl, rfl, rfl, Nat.le_refl _, fun _ _ => rfl⟩
set_option maxRecDepth 100000 in
set_option maxHeartbeats 8000000 in
theorem line_any (nl : Bool) (v : Value) (T : Int → Ans) (l : List Int) (a : Option Addr) (c : Nat) (w : World) (h : VAt nl v T w) (hR : Sep.Reads a (ivs l) w) (hl : l.length ≤ 17592186044416) :
    Calls Try.prog 16 #[v, .slice a l.length c] w (Lined (lineA nl T l) w) := by
  have JC := Lib.hid (join_any nl v T l a c w h hR hl)
  rcases h with ⟨rfl, rfl, rfl⟩ | ⟨rfl, p, q, n, rfl, h⟩
  · clear JC hR
    go_enter Try.func16, Try.ntmps16
    go_wp2
    go_ret2
    exact ⟨none, 0, rfl, .nil _ _, .refl _ _⟩
  · have E := Lib.hid (show lineA false T l = J T l from if_neg (by decide))
    have LI := Lib.hid (len_is (bd_join T l))
    rw [E.out]
    clear h hR E
    generalize J T l = j at *
    go_enter Try.func16, Try.ntmps16
    go_wp2_with (go_at_call 27; refine JC.out.mono ?_; rintro e w1 ⟨ad, ac, rfl, hR, hN, hb⟩)
    have bx := boxed w1 (.cells #[.int .i64 (lenA j : Int), .slice ad (wordA j).length ac] 60)
    have RR := Lib.hid (Sep.Reads.below hR bx (Nat.le_refl _))
    have B1 := Lib.hid (Gr.step hb bx)
    obtain ⟨y0, y1, yf⟩ := (Bk.new w1 #[.int .i64 (lenA j : Int), .slice ad (wordA j).length ac] 60 _ rfl).two
    have EB := Lib.hid (show isA j = decide ((lenA j : Int) ≤ 4096) by rw [Bool.eq_iff_iff, decide_eq_true_iff, ← LI.out]; omega)
    clear hR hN hb bx
    go_quiet (fail)
    go_wp2
    go_ret2
    exact ⟨ad, ac, tuple_of EB.out, RR.out.below (drawnN _ _) (Nat.le_refl _), Gr.step B1.out (drawnN _ _)⟩

set_option maxRecDepth 100000 in
set_option maxHeartbeats 8000000 in
theorem word_any (nl : Bool) (v : Value) (T : Int → Ans) (s : Int) (w : World) (h : VAt nl v T w) :
    Calls Try.prog 11 #[v, .int .i64 s] w (Lined (T s) w) := by
  have bx := boxed w (.cells #[.int .i64 s] 3)
  have B := Lib.hid bx
  have L := Lib.hid (line_any nl v T [s] (some ⟨w.heap.size, 0, none⟩) 1 _ (h.went bx) (reads_one w s) (by simp))
  rw [line_one h s] at L
  clear h bx
  go_enter Try.func11, Try.ntmps11
  go_wp2_with (go_at_call 16; refine L.out.mono ?_; rintro e w1 ⟨ad, c, rfl, hR, hb⟩; have R1 := Lib.hid hR; have B1 := Lib.hid (Gr.step B.out hb); clear hR hb)
  go_ret2
  exact ⟨ad, c, rfl, R1.out, B1.out⟩

set_option maxRecDepth 100000 in
set_option maxHeartbeats 8000000 in
theorem length_any (nl : Bool) (v : Value) (T : Int → Ans) (s : Int) (w : World) (h : VAt nl v T w) :
    Calls Try.prog 13 #[v, .int .i64 s] w (Is (.int .i64 (telA (T s))) w) := by
  have bx := boxed w (.cells #[.int .i64 s] 3)
  have B := Lib.hid bx
  have L := Lib.hid (total_any nl v T [s] (some ⟨w.heap.size, 0, none⟩) 1 _ (h.went bx) (reads_one w s) (by simp))
  rw [join_one' h.bnd s] at L
  have E := Lib.hid (tel_len (h.bnd s))
  clear h bx
  generalize T s = t at *
  by_cases hz : lenA t = 4098
  · have E2 := Lib.hid (show telA t = -1 by rw [E.out, if_pos hz])
    rw [hz] at L
    clear hz
    go_enter Try.func13, Try.ntmps13
    go_wp2_with (go_at_call 26; refine L.out.mono ?_; rintro e w1 ⟨rfl, hb⟩; have B1 := Lib.hid (Gr.step B.out hb); clear hb)
    go_ret
    exact ⟨int_of E2.out, B1.out⟩
  · have E2 := Lib.hid (show telA t = (lenA t : Int) by rw [E.out, if_neg hz])
    generalize lenA t = n at *
    have hb : ((n : Int) != 4098) = true := by simp; omega
    clear hz
    go_enter Try.func13, Try.ntmps13
    go_wp2_with (go_at_call 26; refine L.out.mono ?_; rintro e w1 ⟨rfl, hb⟩; have B1 := Lib.hid (Gr.step B.out hb); clear hb)
    go_ret
    exact ⟨int_of E2.out, B1.out⟩

end Go.Proofs.Ytpfokebbpbigdaa.Le
