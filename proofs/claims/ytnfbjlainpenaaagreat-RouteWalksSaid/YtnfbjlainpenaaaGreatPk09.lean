/- A part of the proof. -/
import Derived.Test.YtnfbjlainpenaaaGreatPk07
import Derived.Test.YtnfbjlainpenaaaGreatPk08
set_option maxHeartbeats 4000000
set_option linter.unusedVariables false
namespace Go.Proofs.YtnfbjlainpenaaaGreat
namespace Gr
open Go.RowKit Go.Maps
def zCY {α : Type} (p : α -> Bool) (L : List α) (k : Nat) : Prop := ∀ j (h : j < L.length), j < k -> p L[j] = true
theorem zAg {α : Type} (p : α -> Bool) (L : List α) : zCY p L 0 := fun _ _ h => absurd h (by omega)
theorem zAf {α : Type} {p : α -> Bool} {L : List α} {k : Nat} (h : zCY p L k) (hk : k < L.length) (e : p L[k] = true) : zCY p L (k + 1) := fun j hj hl => by
 by_cases he : j = k
 ·subst he
  exact e
 ·exact h j hj (by omega)
theorem zBV {α : Type} {p : α -> Bool} {L : List α} {k : Nat} (h : zCY p L k) (hk : ¬ k < L.length) : L.all p = true := by
 rw [List.all_eq_true]
 intro x hx
 obtain ⟨j, hj, rfl⟩ := List.mem_iff_getElem.1 hx
 exact h j hj (by omega)
theorem zA9 {α : Type} {p : α -> Bool} {L : List α} {k : Nat} (hk : k < L.length) (e : p L[k] = false) : L.all p = false := by
 rw [List.all_eq_false]
 exact ⟨_, List.getElem_mem hk, by simp [e]⟩
noncomputable def tokS (s : ByteArray) : Bool := plnS s || quoS s
theorem zH7 (G : Gram) : zBY G = (G.terms.all tokS && G.nons.all plnS) := rfl
theorem zDk {L : List ByteArray} {a : Option Addr} {w : World} (h : Sep.Reads a (L.map .string) w) {k : Nat} (hk : k < L.length) : ∃ b o, a = some ⟨b, o, none⟩ /\ w.cell? ⟨b, o + k, none⟩ = some (.string L[k]) :=
 zA4 h (by simp) hk (by simp [hk])
theorem zEm (h : Sh) (G : Gram) (w : World) (k : GAt h G w) :
  Calls Tryz.prog 61 #[gv h G] w (Is (.bool (!zBY G)) w) := by
 have t := k.t2
 have n := k.n2
 have TS := zNR k.ok.terms
 have NS := zNR k.ok.nons
 obtain ⟨a1, c1, a2, c2, a3, c3⟩ := h
 have X := zNR (Bx.start ⟨a1, c1, a2, c2, a3, c3⟩ G w 25)
 have HT := zNR (show ∀ w1, Below w.heap.size w w1 -> Sep.Reads a1 (G.terms.map .string) w1 from fun w1 (b : Below w.heap.size w w1) => (k.went b).terms)
 have HN := zNR (show ∀ w1, Below w.heap.size w w1 -> Sep.Reads a2 (G.nons.map .string) w1 from fun w1 (b : Below w.heap.size w w1) => (k.went b).nons)
 clear k
 have E := zNR (zH7 G)
 unfold gv
 dsimp only
 go_enter Tryz.func61, Tryz.ntmps61
 go_wp2
 go_loopw [10] (fun i wr => ∃ j : Nat, j <= G.terms.length /\ i = .int .i64 j /\ zCY tokS G.terms j /\ Bx w ⟨a1, c1, a2, c2, a3, c3⟩ G wr) (fun i _ => G.terms.length - (intOf i).toNat)
 case atStart => exact ⟨0, Nat.zero_le _, rfl, zAg _ _, X.out⟩
 case round =>
  clear X
  obtain ⟨j, hj, rfl, hA, hX⟩ := hrel
  have A := zNR hA
  have X := zNR hX
  clear hA hX
  by_cases hlt : j < G.terms.length
  ·obtain ⟨b, o, rfl, hc⟩ := zDk (HT.out _ X.out.below) hlt
   have hs := TS.out _ (List.getElem_mem hlt)
   have AE := zNR (fun he => zAf A.out hlt he)
   have AF := zNR (fun he => zA9 (p := tokS) hlt he)
   generalize G.terms[j] = s at hc hs AE AF
   have P := zNR (fun w1 => zEo s w1 hs)
   have Q := zNR (fun w1 => zFG s w1 hs)
   cases hp : plnS s with
   | true =>
    rw [hp] at P
    have A2 := zNR (AE.out (by simp [tokS, hp]))
    clear hp
    go_wp2_with (go_at_call 88; refine (P.out _).mono ?_; rintro e w1 ⟨rfl, hb⟩; have X := zNR (X.out.went hb); clear hb)
    go_roundw
    case rel => exact ⟨j + 1, by omega, by go_num, A2.out, X.out⟩
    case measure => simp [intOf]; omega
   | false =>
    rw [hp] at P
    cases hq : quoS s with
    | true =>
     rw [hq] at Q
     have A2 := zNR (AE.out (by simp [tokS, hq]))
     clear hp hq
     go_wp2_with (first
      | (go_at_call 88; refine (P.out _).mono ?_; rintro e w1 ⟨rfl, hb⟩; have X := zNR (X.out.went hb); clear hb)
      | (go_at_call 89; refine (Q.out _).mono ?_; rintro e w2 ⟨rfl, rfl⟩))
     go_roundw
     case rel => exact ⟨j + 1, by omega, by go_num, A2.out, X.out⟩
     case measure => simp [intOf]; omega
    | false =>
     rw [hq] at Q
     have F := zNR (AF.out (by simp [tokS, hp, hq]))
     clear hp hq
     go_wp2_with (first
      | (go_at_call 88; refine (P.out _).mono ?_; rintro e w1 ⟨rfl, hb⟩; have X := zNR (X.out.went hb); clear hb)
      | (go_at_call 89; refine (Q.out _).mono ?_; rintro e w2 ⟨rfl, rfl⟩))
     go_ret
     exact ⟨zAA (by rw [E.out, F.out]; rfl), X.out.below⟩
  ·have F1 := zNR (zBV A.out hlt)
   rw [F1.out, Bool.true_and] at E
   obtain ⟨x0, x1, x2, x3⟩ := X.out.box
   clear A F1 HT hj
   go_wp2
   clear x0 x1 x2 x3 hlt
   go_loopw [26] (fun i wr => ∃ j : Nat, j <= G.nons.length /\ i = .int .i64 j /\ zCY plnS G.nons j /\ Bx w ⟨a1, c1, a2, c2, a3, c3⟩ G wr) (fun i _ => G.nons.length - (intOf i).toNat)
   case atStart => exact ⟨0, Nat.zero_le _, rfl, zAg _ _, X.out⟩
   case round =>
    clear X
    obtain ⟨j, hj, rfl, hA, hX⟩ := hrel
    have A := zNR hA
    have X := zNR hX
    clear hA hX
    by_cases hlt : j < G.nons.length
    ·obtain ⟨b, o, rfl, hc⟩ := zDk (HN.out _ X.out.below) hlt
     have hs := NS.out _ (List.getElem_mem hlt)
     have AE := zNR (fun he => zAf A.out hlt he)
     have AF := zNR (fun he => zA9 (p := plnS) hlt he)
     generalize G.nons[j] = s at hc hs AE AF
     have P := zNR (fun w1 => zEo s w1 hs)
     cases hp : plnS s with
     | true =>
      rw [hp] at P
      have A2 := zNR (AE.out hp)
      clear hp
      go_wp2_with (go_at_call 88; refine (P.out _).mono ?_; rintro e w1 ⟨rfl, hb⟩; have X := zNR (X.out.went hb); clear hb)
      go_roundw
      case rel => exact ⟨j + 1, by omega, by go_num, A2.out, X.out⟩
      case measure => simp [intOf]; omega
     | false =>
      rw [hp] at P
      have F := zNR (AF.out hp)
      clear hp
      go_wp2_with (go_at_call 88; refine (P.out _).mono ?_; rintro e w1 ⟨rfl, hb⟩; have X := zNR (X.out.went hb); clear hb)
      go_ret
      exact ⟨zAA (by rw [E.out, F.out]; rfl), X.out.below⟩
    ·have F := zNR (zBV A.out hlt)
     go_wp2
     go_ret
     exact ⟨zAA (by rw [E.out, F.out]; rfl), X.out.below⟩
theorem zI5 (h : Sh) (G : Gram) (w : World) (k : GAt h G w) :
  Calls Tryz.prog 50 #[gv h G] w (Is (.bool (zBY G)) w) := by
 have t := k.t2
 have n := k.n2
 have TS := zNR k.ok.terms
 have NS := zNR k.ok.nons
 obtain ⟨a1, c1, a2, c2, a3, c3⟩ := h
 have X := zNR (Bx.start ⟨a1, c1, a2, c2, a3, c3⟩ G w 25)
 have HT := zNR (show ∀ w1, Below w.heap.size w w1 -> Sep.Reads a1 (G.terms.map .string) w1 from fun w1 (b : Below w.heap.size w w1) => (k.went b).terms)
 have HN := zNR (show ∀ w1, Below w.heap.size w w1 -> Sep.Reads a2 (G.nons.map .string) w1 from fun w1 (b : Below w.heap.size w w1) => (k.went b).nons)
 clear k
 have E := zNR (zH7 G)
 unfold gv
 dsimp only
 go_enter Tryz.func50, Tryz.ntmps50
 go_wp2
 go_loopw [3] (fun i wr => ∃ j : Nat, j <= G.terms.length /\ i = .int .i64 j /\ zCY tokS G.terms j /\ Bx w ⟨a1, c1, a2, c2, a3, c3⟩ G wr) (fun i _ => G.terms.length - (intOf i).toNat)
 case atStart => exact ⟨0, Nat.zero_le _, rfl, zAg _ _, X.out⟩
 case round =>
  clear X
  obtain ⟨j, hj, rfl, hA, hX⟩ := hrel
  have A := zNR hA
  have X := zNR hX
  clear hA hX
  obtain ⟨x0, x1, x2, x3⟩ := X.out.box
  by_cases hlt : j < G.terms.length
  ·obtain ⟨b, o, rfl, hc⟩ := zDk (HT.out _ X.out.below) hlt
   have hs := TS.out _ (List.getElem_mem hlt)
   have AE := zNR (fun he => zAf A.out hlt he)
   have AF := zNR (fun he => zA9 (p := tokS) hlt he)
   generalize G.terms[j] = s at hc hs AE AF
   have P := zNR (fun w1 => zDf s w1 hs)
   have Q := zNR (fun w1 => zMz s w1 hs)
   cases hp : plnS s with
   | true =>
    rw [hp] at P
    have A2 := zNR (AE.out (by simp [tokS, hp]))
    clear hp
    go_wp2_with (go_at_call 78; refine (P.out _).mono ?_; rintro e w1 ⟨rfl, hb⟩; have X := zNR (X.out.went hb); obtain ⟨x0, x1, x2, x3⟩ := X.out.box; have hc := cell_later hb hc; clear hb)
    go_roundw
    case rel => exact ⟨j + 1, by omega, by go_num, A2.out, X.out⟩
    case measure => simp [intOf]; omega
   | false =>
    rw [hp] at P
    cases hq : quoS s with
    | true =>
     rw [hq] at Q
     have A2 := zNR (AE.out (by simp [tokS, hq]))
     clear hp hq
     go_wp2_with (first
      | (go_at_call 78; refine (P.out _).mono ?_; rintro e w1 ⟨rfl, hb⟩; have X := zNR (X.out.went hb); obtain ⟨x0, x1, x2, x3⟩ := X.out.box; have hc := cell_later hb hc; clear hb)
      | (go_at_call 79; refine (Q.out _).mono ?_; rintro e w2 ⟨rfl, hb⟩; have X := zNR (X.out.went hb); clear hb))
     go_roundw
     case rel => exact ⟨j + 1, by omega, by go_num, A2.out, X.out⟩
     case measure => simp [intOf]; omega
    | false =>
     rw [hq] at Q
     have F := zNR (AF.out (by simp [tokS, hp, hq]))
     clear hp hq
     go_wp2_with (first
      | (go_at_call 78; refine (P.out _).mono ?_; rintro e w1 ⟨rfl, hb⟩; have X := zNR (X.out.went hb); obtain ⟨x0, x1, x2, x3⟩ := X.out.box; have hc := cell_later hb hc; clear hb)
      | (go_at_call 79; refine (Q.out _).mono ?_; rintro e w2 ⟨rfl, hb⟩; have X := zNR (X.out.went hb); clear hb))
     go_ret
     exact ⟨zAA (by rw [E.out, F.out]; rfl), X.out.below⟩
  ·have F1 := zNR (zBV A.out hlt)
   rw [F1.out, Bool.true_and] at E
   clear A F1 HT hj
   go_wp2
   clear x0 x1 x2 x3 hlt
   go_loopw [4] (fun i wr => ∃ j : Nat, j <= G.nons.length /\ i = .int .i64 j /\ zCY plnS G.nons j /\ Bx w ⟨a1, c1, a2, c2, a3, c3⟩ G wr) (fun i _ => G.nons.length - (intOf i).toNat)
   case atStart => exact ⟨0, Nat.zero_le _, rfl, zAg _ _, X.out⟩
   case round =>
    clear X
    obtain ⟨j, hj, rfl, hA, hX⟩ := hrel
    have A := zNR hA
    have X := zNR hX
    clear hA hX
    obtain ⟨x0, x1, x2, x3⟩ := X.out.box
    by_cases hlt : j < G.nons.length
    ·obtain ⟨b, o, rfl, hc⟩ := zDk (HN.out _ X.out.below) hlt
     have hs := NS.out _ (List.getElem_mem hlt)
     have AE := zNR (fun he => zAf A.out hlt he)
     have AF := zNR (fun he => zA9 (p := plnS) hlt he)
     generalize G.nons[j] = s at hc hs AE AF
     have P := zNR (fun w1 => zDf s w1 hs)
     cases hp : plnS s with
     | true =>
      rw [hp] at P
      have A2 := zNR (AE.out hp)
      clear hp
      go_wp2_with (go_at_call 78; refine (P.out _).mono ?_; rintro e w1 ⟨rfl, hb⟩; have X := zNR (X.out.went hb); clear hb)
      go_roundw
      case rel => exact ⟨j + 1, by omega, by go_num, A2.out, X.out⟩
      case measure => simp [intOf]; omega
     | false =>
      rw [hp] at P
      have F := zNR (AF.out hp)
      clear hp
      go_wp2_with (go_at_call 78; refine (P.out _).mono ?_; rintro e w1 ⟨rfl, hb⟩; have X := zNR (X.out.went hb); clear hb)
      go_ret
      exact ⟨zAA (by rw [E.out, F.out]), X.out.below⟩
    ·have F := zNR (zBV A.out hlt)
     go_wp2
     go_ret
     exact ⟨zAA (by rw [E.out, F.out]), X.out.below⟩
