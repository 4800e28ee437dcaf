/-
  The form of the names: by the program and by the plain answers.
-/
import Derived.Test.YtoohnkffclkmhaaGramEq
import Derived.Test.YtoohnkffclkmhaaGramRQuo
namespace Go.Proofs.Ytoohnkffclkmhaa.Gr
open Go.RowKit Go.Maps
set_option linter.unusedVariables false

/-- The first k are so. -/
def AllTo {α : Type} (p : α → Bool) (L : List α) (k : Nat) : Prop := ∀ j (h : j < L.length), j < k → p L[j] = true
theorem allTo_zero {α : Type} (p : α → Bool) (L : List α) : AllTo p L 0 := fun _ _ h => absurd h (by omega)
theorem allTo_step {α : Type} {p : α → Bool} {L : List α} {k : Nat} (h : AllTo p L k) (hk : k < L.length) (e : p L[k] = true) : AllTo p L (k + 1) := fun j hj hl => by
  by_cases he : j = k
  · subst he
    exact e
  · exact h j hj (by omega)
theorem all_end {α : Type} {p : α → Bool} {L : List α} {k : Nat} (h : AllTo p L k) (hk : ¬ k < L.length) : L.all p = true := by
  rw [List.all_eq_true]
  intro x hx
  obtain ⟨j, hj, rfl⟩ := List.mem_iff_getElem.1 hx
  exact h j hj (by omega)
theorem all_fail {α : Type} {p : α → Bool} {L : List α} {k : Nat} (hk : k < L.length) (e : p L[k] = false) : L.all p = false := by
  rw [List.all_eq_false]
  exact ⟨_, List.getElem_mem hk, by simp [e]⟩

noncomputable def tokS (s : ByteArray) : Bool := plnS s || quoS s
theorem form_eq (G : Gram) : formB G = (G.terms.all tokS && G.nons.all plnS) := rfl

/-- The k-th string of a list that reads, later. -/
theorem str_at {L : List ByteArray} {a : Option Addr} {w : World} (h : Sep.Reads a (L.map .string) w) {k : Nat} (hk : k < L.length) : ∃ b o, a = some ⟨b, o, none⟩ ∧ w.cell? ⟨b, o + k, none⟩ = some (.string L[k]) :=
  reads_get h (by simp) hk (by simp [hk])

set_option maxHeartbeats 4000000 in
theorem misnamed_any (h : Sh) (G : Gram) (w : World) (k : GAt h G w) :
    Calls Try.prog 35 #[gv h G] w (Is (.bool (!formB G)) w) := by
  have t := k.t2
  have n := k.n2
  have TS := Lib.hid k.ok.terms
  have NS := Lib.hid k.ok.nons
  obtain ⟨a1, c1, a2, c2, a3, c3⟩ := h
  have X := Lib.hid (Bx.start ⟨a1, c1, a2, c2, a3, c3⟩ G w 43)
  have HT := Lib.hid (show ∀ w1, Below w.heap.size w w1 → Sep.Reads a1 (G.terms.map .string) w1 from fun w1 (b : Below w.heap.size w w1) => (k.went b).terms)
  have HN := Lib.hid (show ∀ w1, Below w.heap.size w w1 → Sep.Reads a2 (G.nons.map .string) w1 from fun w1 (b : Below w.heap.size w w1) => (k.went b).nons)
  clear k
  have E := Lib.hid (form_eq G)
  unfold gv
  dsimp only
  go_enter Try.func35, Try.ntmps35
  go_wp2
  go_loopw [10] (fun i wr => ∃ j : Nat, j ≤ G.terms.length ∧ i = .int .i64 j ∧ AllTo tokS G.terms j ∧ Bx w ⟨a1, c1, a2, c2, a3, c3⟩ G wr) (fun i _ => G.terms.length - (intOf i).toNat)
  case atStart => exact ⟨0, Nat.zero_le _, rfl, allTo_zero _ _, X.out⟩
  case round =>
    clear X
    obtain ⟨j, hj, rfl, hA, hX⟩ := hrel
    have A := Lib.hid hA
    have X := Lib.hid hX
    clear hA hX
    by_cases hlt : j < G.terms.length
    · obtain ⟨b, o, rfl, hc⟩ := str_at (HT.out _ X.out.below) hlt
      have hs := TS.out _ (List.getElem_mem hlt)
      have AE := Lib.hid (fun he => allTo_step A.out hlt he)
      have AF := Lib.hid (fun he => all_fail (p := tokS) hlt he)
      generalize G.terms[j] = s at hc hs AE AF
      have P := Lib.hid (fun w1 => named_any s w1 hs)
      have Q := Lib.hid (fun w1 => gquoted_any s w1 hs)
      cases hp : plnS s with
      | true =>
        rw [hp] at P
        have A2 := Lib.hid (AE.out (by simp [tokS, hp]))
        clear hp
        go_wp2_with (go_at_call 50; refine (P.out _).mono ?_; rintro e w1 ⟨rfl, hb⟩; have X := Lib.hid (X.out.went hb); clear hb)
        go_roundw
        case rel => exact ⟨j + 1, by omega, by go_num, A2.out, X.out⟩
        case measure => simp [intOf]; omega
      | false =>
        rw [hp] at P
        cases hq : quoS s with
        | true =>
          rw [hq] at Q
          have A2 := Lib.hid (AE.out (by simp [tokS, hq]))
          clear hp hq
          go_wp2_with (first
            | (go_at_call 50; refine (P.out _).mono ?_; rintro e w1 ⟨rfl, hb⟩; have X := Lib.hid (X.out.went hb); clear hb)
            | (go_at_call 51; refine (Q.out _).mono ?_; rintro e w2 ⟨rfl, rfl⟩))
          go_roundw
          case rel => exact ⟨j + 1, by omega, by go_num, A2.out, X.out⟩
          case measure => simp [intOf]; omega
        | false =>
          rw [hq] at Q
          have F := Lib.hid (AF.out (by simp [tokS, hp, hq]))
          clear hp hq
          go_wp2_with (first
            | (go_at_call 50; refine (P.out _).mono ?_; rintro e w1 ⟨rfl, hb⟩; have X := Lib.hid (X.out.went hb); clear hb)
            | (go_at_call 51; refine (Q.out _).mono ?_; rintro e w2 ⟨rfl, rfl⟩))
          go_ret
          exact ⟨bool_of (by rw [E.out, F.out]; rfl), X.out.below⟩
    · have F1 := Lib.hid (all_end A.out hlt)
      rw [F1.out, Bool.true_and] at E
      obtain ⟨x0, x1, x2, x3⟩ := X.out.box
      clear A F1 HT hj
      go_wp2
      clear x0 x1 x2 x3 hlt
      go_loopw [26] (fun i wr => ∃ j : Nat, j ≤ G.nons.length ∧ i = .int .i64 j ∧ AllTo plnS G.nons j ∧ Bx w ⟨a1, c1, a2, c2, a3, c3⟩ G wr) (fun i _ => G.nons.length - (intOf i).toNat)
      case atStart => exact ⟨0, Nat.zero_le _, rfl, allTo_zero _ _, X.out⟩
      case round =>
        clear X
        obtain ⟨j, hj, rfl, hA, hX⟩ := hrel
        have A := Lib.hid hA
        have X := Lib.hid hX
        clear hA hX
        by_cases hlt : j < G.nons.length
        · obtain ⟨b, o, rfl, hc⟩ := str_at (HN.out _ X.out.below) hlt
          have hs := NS.out _ (List.getElem_mem hlt)
          have AE := Lib.hid (fun he => allTo_step A.out hlt he)
          have AF := Lib.hid (fun he => all_fail (p := plnS) hlt he)
          generalize G.nons[j] = s at hc hs AE AF
          have P := Lib.hid (fun w1 => named_any s w1 hs)
          cases hp : plnS s with
          | true =>
            rw [hp] at P
            have A2 := Lib.hid (AE.out hp)
            clear hp
            go_wp2_with (go_at_call 50; refine (P.out _).mono ?_; rintro e w1 ⟨rfl, hb⟩; have X := Lib.hid (X.out.went hb); clear hb)
            go_roundw
            case rel => exact ⟨j + 1, by omega, by go_num, A2.out, X.out⟩
            case measure => simp [intOf]; omega
          | false =>
            rw [hp] at P
            have F := Lib.hid (AF.out hp)
            clear hp
            go_wp2_with (go_at_call 50; refine (P.out _).mono ?_; rintro e w1 ⟨rfl, hb⟩; have X := Lib.hid (X.out.went hb); clear hb)
            go_ret
            exact ⟨bool_of (by rw [E.out, F.out]; rfl), X.out.below⟩
        · have F := Lib.hid (all_end A.out hlt)
          go_wp2
          go_ret
          exact ⟨bool_of (by rw [E.out, F.out]; rfl), X.out.below⟩

end Go.Proofs.Ytoohnkffclkmhaa.Gr
