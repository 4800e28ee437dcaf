/-
  Ordered, by the program and by the plain answers; the plain answers' Of.
-/
import Derived.Test.YtkggpkbdekebcaaGreatGramOf
namespace Go.Proofs.YtkggpkbdekebcaaGreat.Gr
open Go.RowKit Go.Maps
set_option linter.unusedVariables false

set_option maxHeartbeats 2000000 in
set_option maxRecDepth 100000 in
theorem rof_any (h : Sh) (G : Gram) (s : Int) (w : World) (k : GAt h G w) (hr : G.rules.length ≤ 65536) :
    Calls Tryz.prog 26 #[gv h G, .int .i64 s] w (Listed (ofL G s) w) := by
  obtain ⟨i0, hi, hz0, hz1, hz2⟩ := info_parts info_int
  obtain ⟨a1, c1, a2, c2, a3, c3⟩ := h
  have hc3 := k.r2
  have X := Lib.hid (Bx.start ⟨a1, c1, a2, c2, a3, c3⟩ G w 25)
  have K := Lib.hid (fun w1 (b : Below w.heap.size w w1) => (k.went b).rules)
  clear k
  have HO := Lib.hid (show (w.alloc (.cells #[.slice a1 G.terms.length c1, .slice a2 G.nons.length c2, .slice a3 G.rules.length c3, .int .i64 G.start] 25)).ownsRow (w.heap.size + 1) 3 1 (.slice none 0 0) (ofI G.rules s 0).length (ivs (ofI G.rules s 0)) from ⟨rfl, .inl ⟨rfl, rfl⟩⟩)
  unfold gv
  dsimp only
  go_enter Tryz.func26, Tryz.ntmps26
  go_wp2
  go_loopw [5, 6] (fun v i wr => ∃ j : Nat, j ≤ G.rules.length ∧ i = .int .i64 j ∧ wr.ownsRow (w.heap.size + 1) 3 1 v (ofI G.rules s j).length (ivs (ofI G.rules s j)) ∧ Bx w ⟨a1, c1, a2, c2, a3, c3⟩ G wr) (fun _ i _ => G.rules.length - (intOf i).toNat)
  case atStart => exact ⟨0, Nat.zero_le _, rfl, HO.out, X.out⟩
  case round =>
    obtain ⟨j, hj, rfl, hO, hX⟩ := hrel
    obtain ⟨a', c', rfl⟩ := Sep.ownsRow_shape hO
    clear HO X
    have X := Lib.hid hX
    have HO := Lib.hid hO
    have hle := ofI_le G.rules s j
    clear hO hX
    by_cases hlt : j < G.rules.length
    · obtain ⟨b, o, ra, rc, e, h1, h2, h3, h4, h5⟩ := K.out _ X.out.below j hlt
      have e1 := leftOf_get hlt
      rw [← e1] at h1
      generalize G.rules[j].2 = rr at h2 h3 h4 h5
      try dsimp only at e
      subst e
      obtain ⟨x0, x1, x2, x3⟩ := X.out.box
      clear e1 h3
      by_cases hs : leftOf G.rules j = s
      · have HI := Lib.hid (ofI_hit hs)
        subst hs
        generalize leftOf G.rules j = s at *
        go_wp2_with (at_builtin; go_loud (refine wpList_append_own _ rfl _ _ 41 rfl (w.heap.size + 1) 3 i0 (.int .i64 0) 1 8 Tryz.underlying41 hi hz0 hz1 hz2 rfl (by decide) _ _ _ rfl (HO.out.alloc _) ⟨wr.heap.size, 0, none⟩ 1 1 [iv j] rfl rfl ?c1 ?c2 ?c3 ?c4 ?c5 ?_))
        case c1 =>
          intro i u hi
          match i, hi with
          | 0, hi => simp at hi; subst hi; simp [iv]
        case c2 => first | rfl | (intro u hu; simp at hu; subst hu; rfl)
        case c3 => unfold maxLen; omega
        case c4 => omega
        case c5 => have := X.out.size; simp; omega
        intro v' w2 hown' hgrow _
        have X := Lib.hid ((X.out.alloc _).grown hgrow fun q hq => (HO.out.lt q hq).1)
        have HO := Lib.hid (show w2.ownsRow (w.heap.size + 1) 3 1 v' (ofI G.rules s (j + 1)).length (ivs (ofI G.rules s (j + 1))) by rw [HI.out]; simpa [ivs] using hown')
        clear hown' hgrow
        go_wp2
        go_roundw
        case rel => exact ⟨j + 1, by omega, by go_num, HO.out, X.out⟩
        case measure => simp [intOf]; omega
      · have HI := Lib.hid (ofI_miss hs)
        have hb : (leftOf G.rules j == s) = false := by simpa using hs
        clear hs
        go_wp2_with (at_builtin; fail)
        go_roundw
        case rel => exact ⟨j + 1, by omega, by go_num, by rw [HI.out]; exact HO.out, X.out⟩
        case measure => simp [intOf]; omega
    · have hE : j = G.rules.length := by omega
      subst hE
      have HR := Lib.hid (Sep.Reads.of_row HO.out)
      have HN := Lib.hid (row_new (W := w) HO.out (by omega))
      obtain ⟨x0, x1, x2, x3⟩ := X.out.box
      go_wp2
      go_ret
      exact ⟨_, _, rfl, HR.out, HN.out, X.out.below⟩

theorem firstR_some {G : Gram} {i : Nat} {x : Int} {l : List Int} (h : ofL G ((G.terms.length : Int) + 1 + i) = x :: l) : x = (firstR G i : Int) := by
  unfold firstR
  unfold ofL ofI at h
  change List.map _ (ofN G ((G.terms.length : Int) + 1 + i)) = _ at h
  cases e : ofN G ((G.terms.length : Int) + 1 + i) with
  | nil => rw [e] at h; cases h
  | cons y r =>
    rw [e] at h
    simp only [List.map_cons, List.cons.injEq] at h
    simp [← h.1]
theorem firstR_none {G : Gram} {i : Nat} (h : ofL G ((G.terms.length : Int) + 1 + i) = []) : firstR G i = G.rules.length := by
  unfold firstR
  unfold ofL ofI at h
  change List.map _ (ofN G ((G.terms.length : Int) + 1 + i)) = _ at h
  rw [List.map_eq_nil_iff] at h
  simp [h]

end Go.Proofs.YtkggpkbdekebcaaGreat.Gr
