/-
  Symbols that can stand where they do: by the program and by the plain answers.
-/
import Derived.Test.YtoohnkffclkmhaaGramForm
import Derived.Test.YtoohnkffclkmhaaGramRSame
import Derived.Deep.RegionWith
namespace Go.Proofs.Ytoohnkffclkmhaa.Gr
open Go.RowKit Go.Maps
set_option linter.unusedVariables false

/-- A symbol on a right side. -/
def symB (G : Gram) (x : Int) : Bool := decide (1 ≤ x ∧ x ≤ (top G : Int))
def ruleOk (G : Gram) (r : Int × List Int) : Bool := nonB G r.1 && r.2.all (symB G)
theorem known_eq (G : Gram) : knownB G = (nonB G G.start && G.rules.all (ruleOk G)) := rfl
theorem symB_iff {G : Gram} {x : Int} : symB G x = true ↔ 1 ≤ x ∧ x ≤ (top G : Int) := by
  unfold symB
  rw [decide_eq_true_iff]
theorem symB_not {G : Gram} {x : Int} : symB G x = false ↔ x < 1 ∨ (top G : Int) < x := by
  rw [← Bool.not_eq_true, symB_iff]
  omega
theorem symB_or (G : Gram) (x : Int) : symB G x = (termB G x || nonB G x) := by
  rw [Bool.eq_iff_iff, Bool.or_eq_true, symB_iff, termB_iff, nonB_iff]
  unfold top
  omega
theorem known_empty {G : Gram} (h : G.nons.length = 0) : knownB G = false := by
  have : nonB G G.start = false := by rw [nonB_not]; omega
  rw [known_eq, this, Bool.false_and]
/-- The k-th number of a list that reads. -/
theorem int_at {L : List Int} {a : Option Addr} {w : World} (h : Sep.Reads a (ivs L) w) {k : Nat} (hk : k < L.length) : ∃ b o, a = some ⟨b, o, none⟩ ∧ w.cell? ⟨b, o + k, none⟩ = some (.int .i64 L[k]) :=
  reads_get h (by simp [ivs]) hk (by simp [ivs, iv, hk])

set_option maxHeartbeats 8000000 in
theorem misnumbered_any (h : Sh) (G : Gram) (w : World) (k : GAt h G w) :
    Calls Try.prog 37 #[gv h G] w (Is (.bool (!knownB G)) w) := by
  have hc3 := k.r2
  obtain ⟨a1, c1, a2, c2, a3, c3⟩ := h
  have X := Lib.hid (Bx.start ⟨a1, c1, a2, c2, a3, c3⟩ G w 43)
  have N := Lib.hid (fun s w1 (b : Below w.heap.size w w1) => non_any ⟨a1, c1, a2, c2, a3, c3⟩ G s w1 (k.went b))
  have T := Lib.hid (fun w1 (b : Below w.heap.size w w1) => top_any ⟨a1, c1, a2, c2, a3, c3⟩ G w1 (k.went b))
  have K := Lib.hid (fun w1 (b : Below w.heap.size w w1) => (k.went b).rules)
  clear k
  have E := Lib.hid (known_eq G)
  unfold gv
  dsimp only
  cases h0 : nonB G G.start with
  | false =>
    rw [h0, Bool.false_and] at E
    have NS := Lib.hid (show ∀ w1, Below w.heap.size w w1 → Calls _ _ _ w1 (Is (.bool false) w1) from fun w1 b => by have := N.out G.start w1 b; rw [h0] at this; exact this)
    clear h0
    go_enter Try.func37, Try.ntmps37
    go_wp2_with (go_at_call 47; refine (NS.out _ X.out.below).mono ?_; rintro e w1 ⟨rfl, hb⟩; have X := Lib.hid (X.out.went hb); clear hb)
    go_ret
    exact ⟨bool_of (by rw [E.out]; rfl), X.out.below⟩
  | true =>
    rw [h0, Bool.true_and] at E
    have NS := Lib.hid (show ∀ w1, Below w.heap.size w w1 → Calls _ _ _ w1 (Is (.bool true) w1) from fun w1 b => by have := N.out G.start w1 b; rw [h0] at this; exact this)
    clear h0
    go_enter Try.func37, Try.ntmps37
    go_wp2_with (go_at_call 47; refine (NS.out _ X.out.below).mono ?_; rintro e w1 ⟨rfl, hb⟩; have X := Lib.hid (X.out.went hb); obtain ⟨x0, x1, x2, x3⟩ := X.out.box; clear hb)
    clear NS x0 x1 x2 x3
    go_loopw [15] (fun i wr => ∃ j : Nat, j ≤ G.rules.length ∧ i = .int .i64 j ∧ AllTo (ruleOk G) G.rules j ∧ Bx w ⟨a1, c1, a2, c2, a3, c3⟩ G wr) (fun i _ => G.rules.length - (intOf i).toNat)
    case atStart => exact ⟨0, Nat.zero_le _, rfl, allTo_zero _ _, X.out⟩
    case round =>
      clear X
      obtain ⟨j, hj, rfl, hA, hX⟩ := hrel
      have A := Lib.hid hA
      have X := Lib.hid hX
      obtain ⟨x0, x1, x2, x3⟩ := hX.box
      clear hA hX
      by_cases hlt : j < G.rules.length
      · obtain ⟨b, o, ra, rc, e, h1, h2, h3, h4, h5⟩ := K.out _ X.out.below j hlt
        try dsimp only at e
        subst e
        have hsz : w.heap.size < wr.heap.size := X.out.size
        have AE := Lib.hid (fun he => allTo_step A.out hlt he)
        have AF := Lib.hid (fun he => all_fail (p := ruleOk G) hlt he)
        generalize G.rules[j] = r at h1 h2 h3 h4 h5 AE AF
        have NL := Lib.hid (N.out r.1)
        have HR := Lib.hid (show ∀ w1, Below wr.heap.size wr w1 → Sep.Reads ra (ivs r.2) w1 from fun w1 b => Sep.Reads.below h3 b (Nat.le_refl _))
        have hrl : r.2.length ≤ 17592186044416 := by omega
        clear h3 h4 h5
        cases hn : nonB G r.1 with
        | false =>
          have F := Lib.hid (AF.out (by simp [ruleOk, hn]))
          have NL := Lib.hid (show ∀ w1, Below w.heap.size w w1 → Calls _ _ _ w1 (Is (.bool false) w1) from fun w1 b => by have := NL.out w1 b; rw [hn] at this; exact this)
          clear hn AE AF
          go_wp2_with (go_at_call 47; refine (NL.out _ (X.out.alloc _).below).mono ?_; rintro e w1 ⟨rfl, hb⟩; have X := Lib.hid ((X.out.alloc _).went hb); clear hb)
          go_ret
          exact ⟨bool_of (by rw [E.out, F.out]; rfl), X.out.below⟩
        | true =>
          have AE := Lib.hid (fun (hr : r.2.all (symB G) = true) => AE.out (show ruleOk G r = true by unfold ruleOk; rw [hn, hr]; rfl))
          have AF := Lib.hid (fun (hr : r.2.all (symB G) = false) => AF.out (show ruleOk G r = false by unfold ruleOk; rw [hn, hr]; rfl))
          have NL := Lib.hid (show ∀ w1, Below w.heap.size w w1 → Calls _ _ _ w1 (Is (.bool true) w1) from fun w1 b => by have := NL.out w1 b; rw [hn] at this; exact this)
          clear hn
          go_wp2_with (go_at_call 47; refine (NL.out _ (X.out.alloc _).below).mono ?_; rintro e w1 ⟨rfl, hb⟩; have X := Lib.hid ((X.out.alloc _).went hb); obtain ⟨x0, x1, x2, x3⟩ := X.out.box; have r1 : w1.cell? ⟨wr.heap.size, 1, none⟩ = some (.slice ra r.2.length rc) := cell_later hb (cell_new rfl rfl); have HR := Lib.hid (fun w2 (b : Below w1.heap.size w1 w2) => HR.out w2 (step (boxed _ _) (step hb b))); clear hb)
          clear NL x0 x1 x2 x3 r1
          have X0 := X
          clear X
          go_loopw [27] (fun i wt => ∃ m : Nat, m ≤ r.2.length ∧ i = .int .i64 m ∧ AllTo (symB G) r.2 m ∧ Bx w ⟨a1, c1, a2, c2, some ⟨b, o, none⟩, c3⟩ G wt ∧ Below w1.heap.size w1 wt) (fun i _ => r.2.length - (intOf i).toNat)
          case atStart => exact ⟨0, Nat.zero_le _, rfl, allTo_zero _ _, X0.out, .refl _ _⟩
          case round =>
            clear X0
            obtain ⟨m, hm, rfl, hS, hX, hB⟩ := hrel
            have S := Lib.hid hS
            have X := Lib.hid hX
            have B := Lib.hid hB
            obtain ⟨x0, x1, x2, x3⟩ := hX.box
            clear hS hX hB
            by_cases hlm : m < r.2.length
            · obtain ⟨b2, o2, rfl, hc⟩ := int_at (HR.out _ B.out) hlm
              have SE := Lib.hid (fun he => allTo_step S.out hlm he)
              have SF := Lib.hid (fun he => all_fail (p := symB G) hlm he)
              generalize r.2[m] = x at hc SE SF
              by_cases hx1 : x < 1
              · have F := Lib.hid (AF.out (SF.out (symB_not.2 (.inl hx1))))
                go_wp2
                go_ret
                exact ⟨bool_of (by rw [E.out, F.out]; rfl), X.out.below⟩
              · by_cases hx2 : (top G : Int) < x
                · have F := Lib.hid (AF.out (SF.out (symB_not.2 (.inr hx2))))
                  go_wp2_with (go_at_call 52; refine (T.out _ X.out.below).mono ?_; rintro e w2 ⟨rfl, hb⟩; have X := Lib.hid (X.out.went hb); clear hb)
                  go_ret
                  exact ⟨bool_of (by rw [E.out, F.out]; rfl), X.out.below⟩
                · have S2 := Lib.hid (SE.out (symB_iff.2 ⟨by omega, by omega⟩))
                  go_wp2_with (go_at_call 52; refine (T.out _ X.out.below).mono ?_; rintro e w2 ⟨rfl, hb⟩; have X := Lib.hid (X.out.went hb); have B := Lib.hid (step B.out hb); clear hb)
                  go_roundw
                  case rel => exact ⟨m + 1, by omega, by go_num, S2.out, X.out, B.out⟩
                  case measure => simp [intOf]; omega
            · have A2 := Lib.hid (AE.out (all_end S.out hlm))
              go_wp2
              go_roundw
              case rel => exact ⟨j + 1, by omega, by go_num, A2.out, X.out⟩
              case measure => simp [intOf]; omega
      · have F := Lib.hid (all_end A.out hlt)
        go_wp2
        go_ret
        exact ⟨bool_of (by rw [E.out, F.out]; rfl), X.out.below⟩

/-- Five cells that stay, and that only new blocks are made. -/
def Five (w : World) (p1 p2 p3 p4 p5 : Addr) (v1 v2 v3 v4 v5 : Value) : Prop :=
  ∀ w', Below w.heap.size w w' → w'.cell? p1 = some v1 ∧ w'.cell? p2 = some v2 ∧ w'.cell? p3 = some v3 ∧ w'.cell? p4 = some v4 ∧ w'.cell? p5 = some v5 ∧ Below w.heap.size w w'
theorem five {w : World} {p1 p2 p3 p4 p5 : Addr} {v1 v2 v3 v4 v5 : Value} (h1 : w.cell? p1 = some v1) (h2 : w.cell? p2 = some v2) (h3 : w.cell? p3 = some v3) (h4 : w.cell? p4 = some v4) (h5 : w.cell? p5 = some v5) : Five w p1 p2 p3 p4 p5 v1 v2 v3 v4 v5 :=
  fun _ hb => ⟨cell_later hb h1, cell_later hb h2, cell_later hb h3, cell_later hb h4, cell_later hb h5, hb⟩

end Go.Proofs.Ytoohnkffclkmhaa.Gr
