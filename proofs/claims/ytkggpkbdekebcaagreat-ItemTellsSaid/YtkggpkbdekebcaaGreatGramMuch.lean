/-
  How much there is: the statements' own function Much: its number is at least the lists' lengths together.
-/
import Derived.Test.YtkggpkbdekebcaaGreatGramForm
namespace Go.Proofs.YtkggpkbdekebcaaGreat.Gr
open Go.RowKit Go.Maps
set_option linter.unusedVariables false

/-- A number comes back that is at least the lists' lengths together; nothing that was there is written. -/
def Much (G : Gram) (w : World) (e : Ending) (w' : World) : Prop := ∃ n : Int, e = .returned (.int .i64 n) ∧ (G.terms.length : Int) + G.nons.length + G.rules.length ≤ n ∧ Below w.heap.size w w'

set_option maxRecDepth 100000 in
set_option maxHeartbeats 8000000 in
theorem much_any (h : Sh) (G : Gram) (w : World) (k : GAt h G w) :
    Calls Tryz.prog 4 #[gv h G] w (Much G w) := by
  have t := k.t2
  have n := k.n2
  have r := k.r2
  obtain ⟨a1, c1, a2, c2, a3, c3⟩ := h
  have X := Lib.hid (boxed w (.cells #[.slice a1 G.terms.length c1, .slice a2 G.nons.length c2, .slice a3 G.rules.length c3, .int .i64 G.start] 25))
  have HT := Lib.hid (show Sep.Reads a1 (G.terms.map .string) (w.alloc (.cells #[.slice a1 G.terms.length c1, .slice a2 G.nons.length c2, .slice a3 G.rules.length c3, .int .i64 G.start] 25)) from (k.went X.out).terms)
  have HN := Lib.hid (show Sep.Reads a2 (G.nons.map .string) (w.alloc (.cells #[.slice a1 G.terms.length c1, .slice a2 G.nons.length c2, .slice a3 G.rules.length c3, .int .i64 G.start] 25)) from (k.went X.out).nons)
  have HR := Lib.hid (show RulesAt a3 G.rules (w.alloc (.cells #[.slice a1 G.terms.length c1, .slice a2 G.nons.length c2, .slice a3 G.rules.length c3, .int .i64 G.start] 25)) from (k.went X.out).rules)
  have TS := Lib.hid k.ok.terms
  have NS := Lib.hid k.ok.nons
  clear k
  unfold gv
  dsimp only
  obtain ⟨S, hS⟩ : ∃ S : Int, S = (G.terms.length : Int) + G.nons.length + G.rules.length := ⟨_, rfl⟩
  have hS0 : 0 ≤ S := by omega
  have hS1 : S ≤ 35184372088832 := by omega
  have HS := Lib.hid hS
  go_enter Tryz.func4, Tryz.ntmps4
  go_wp2
  go_loop [3, 4] (fun v i => ∃ j : Nat, ∃ m : Int, j ≤ G.terms.length ∧ j ≤ 200 ∧ i = .int .i64 j ∧ v = .int .i64 m ∧ S ≤ m ∧ m ≤ S + j * 8796093022208) (fun _ i => 200 - (intOf i).toNat)
  case atStart => exact ⟨0, S, Nat.zero_le _, by omega, rfl, by first | rfl | (rw [HS.out]) | go_num, by omega, by omega⟩
  case round =>
    obtain ⟨j, m, hj, hj2, rfl, rfl, hm1, hm2⟩ := hrel
    by_cases hlt : j < G.terms.length ∧ j < 200
    · obtain ⟨hl1, hl2⟩ := hlt
      obtain ⟨b, o, e, hc⟩ := str_at HT.out hl1
      have hs := TS.out _ (List.getElem_mem hl1)
      subst e
      generalize G.terms[j] = s at hc hs
      clear hS
      go_wp2
      go_round
      case rel => exact ⟨j + 1, m + (s.size : Int) / 20, by omega, by omega, by go_num, by go_num, by omega, by omega⟩
      case measure => simp [intOf]; omega
    · have hb2 : m ≤ S + 1759218604441600 := by omega
      clear hm2
      have fin1 : ∀ (P : Prop), (¬ j < G.terms.length → P) → (j < G.terms.length → ¬ j < 200 → P) → P := fun P f g => by
        by_cases h1 : j < G.terms.length
        · exact g h1 (fun h2 => hlt ⟨h1, h2⟩)
        · exact f h1
      have FIN := Lib.hid fin1
      clear fin1 hlt hj2 hj
      refine FIN.out _ (fun h1 => ?_) (fun h1 h2 => ?_)
      all_goals
        clear hS
        go_wp2
        clear h1
        try clear h2
        go_loop [3, 5] (fun v i => ∃ j : Nat, ∃ m : Int, j ≤ G.nons.length ∧ j ≤ 200 ∧ i = .int .i64 j ∧ v = .int .i64 m ∧ S ≤ m ∧ m ≤ S + 1759218604441600 + j * 8796093022208) (fun _ i => 200 - (intOf i).toNat)
        case atStart => exact ⟨0, m, Nat.zero_le _, by omega, rfl, rfl, by omega, by omega⟩
        case round =>
          clear hm1 hb2 FIN
          obtain ⟨j, m, hj, hj2, rfl, rfl, hm1, hm2⟩ := hrel
          by_cases hlt : j < G.nons.length ∧ j < 200
          · obtain ⟨hl1, hl2⟩ := hlt
            obtain ⟨b, o, e, hc⟩ := str_at HN.out hl1
            have hs := NS.out _ (List.getElem_mem hl1)
            subst e
            generalize G.nons[j] = s at hc hs
            go_wp2
            go_round
            case rel => exact ⟨j + 1, m + (s.size : Int) / 20, by omega, by omega, by go_num, by go_num, by omega, by omega⟩
            case measure => simp [intOf]; omega
          · have hb2 : m ≤ S + 3518437208883200 := by omega
            clear hm2
            have fin1 : ∀ (P : Prop), (¬ j < G.nons.length → P) → (j < G.nons.length → ¬ j < 200 → P) → P := fun P f g => by
              by_cases h1 : j < G.nons.length
              · exact g h1 (fun h2 => hlt ⟨h1, h2⟩)
              · exact f h1
            have FIN := Lib.hid fin1
            clear fin1 hlt hj2 hj
            refine FIN.out _ (fun h1 => ?_) (fun h1 h2 => ?_)
            all_goals
              go_wp2
              clear h1
              try clear h2
              go_loop [3, 6] (fun v i => ∃ j : Nat, ∃ m : Int, j ≤ G.rules.length ∧ j ≤ 400 ∧ i = .int .i64 j ∧ v = .int .i64 m ∧ S ≤ m ∧ m ≤ S + 3518437208883200 + j * 8796093022208) (fun _ i => 400 - (intOf i).toNat)
              case atStart => exact ⟨0, m, Nat.zero_le _, by omega, rfl, rfl, by omega, by omega⟩
              case round =>
                clear hm1 hb2 FIN
                obtain ⟨j, m, hj, hj2, rfl, rfl, hm1, hm2⟩ := hrel
                by_cases hlt : j < G.rules.length ∧ j < 400
                · obtain ⟨hl1, hl2⟩ := hlt
                  obtain ⟨b, o, ra, rc, e, g1, g2, g3, g4, g5⟩ := HR.out j hl1
                  subst e
                  generalize G.rules[j].2 = rr at g2 g3 g4 g5
                  clear g1 g3
                  have hrr : rr.length ≤ 17592186044416 := by omega
                  go_wp2
                  go_round
                  case rel => exact ⟨j + 1, m + (rr.length : Int) / 9, by omega, by omega, by go_num, by go_num, by omega, by omega⟩
                  case measure => simp [intOf]; omega
                · have fin1 : ∀ (P : Prop), (¬ j < G.rules.length → P) → (j < G.rules.length → ¬ j < 400 → P) → P := fun P f g => by
                    by_cases h1 : j < G.rules.length
                    · exact g h1 (fun h2 => hlt ⟨h1, h2⟩)
                    · exact f h1
                  have FIN := Lib.hid fin1
                  clear fin1 hlt hj2 hj hm2
                  refine FIN.out _ (fun h1 => ?_) (fun h1 h2 => ?_)
                  all_goals
                    go_wp2
                    go_ret
                    exact ⟨_, rfl, by rw [← HS.out]; exact hm1, X.out⟩

end Go.Proofs.YtkggpkbdekebcaaGreat.Gr
