/-
  Ordered, by the program and by the plain answers; the plain answers' Of.
-/
import Derived.Test.YtimfiaphhomelaaGramOf
namespace Go.Proofs.Ytimfiaphhomelaa.Gr
open Go.RowKit Go.Maps
set_option linter.unusedVariables false

set_option maxHeartbeats 2000000 in
theorem ordered_any (h : Sh) (G : Gram) (w : World) (k : GAt h G w) :
    Calls Try.prog 11 #[gv h G] w (Is (.bool (ordB G)) w) := by
  obtain ⟨a1, c1, a2, c2, a3, c3⟩ := h
  have hc3 := k.r2
  have hc1 := k.t2
  have hc2 := k.n2
  have X := Lib.hid (Bx.start ⟨a1, c1, a2, c2, a3, c3⟩ G w 25)
  have K := Lib.hid (fun w1 (b : Below w.heap.size w w1) => (k.went b).rules)
  have N := Lib.hid (fun s w1 (b : Below w.heap.size w w1) => non_any ⟨a1, c1, a2, c2, a3, c3⟩ G s w1 (k.went b))
  clear k
  unfold gv
  dsimp only
  go_enter Try.func11, Try.ntmps11
  go_wp2
  go_loopw [3, 13] (fun v i wr => ∃ j m : Nat, j ≤ G.rules.length ∧ i = .int .i64 j ∧ v = .int .i64 ((G.terms.length : Int) + 1 + m) ∧ OrdTo G j m ∧ Bx w ⟨a1, c1, a2, c2, a3, c3⟩ G wr) (fun _ i _ => G.rules.length - (intOf i).toNat)
  case atStart => exact ⟨0, 0, Nat.zero_le _, rfl, by go_num, ordTo_zero G, X.out⟩
  case round =>
    clear X
    obtain ⟨j, m, hj, rfl, rfl, hO, hX⟩ := hrel
    have X := Lib.hid hX
    have O := Lib.hid hO
    have hm := hO.1.1
    clear hO hX
    by_cases hlt : j < G.rules.length
    · obtain ⟨b, o, ra, rc, e, h1, h2, h3, h4, h5⟩ := K.out _ X.out.below j hlt
      have e1 := leftOf_get hlt
      rw [← e1] at h1
      generalize G.rules[j].2 = rr at h2 h3 h4 h5
      try dsimp only at e
      subst e
      clear e1 h3 h4 h5
      have hsz : w.heap.size < wr.heap.size := X.out.size
      obtain ⟨x0, x1, x2, x3⟩ := X.out.box
      cases hn : nonB G (leftOf G.rules j) with
      | false =>
        have O2 := Lib.hid (ordTo_skip O.out (.inl hn))
        have NN := Lib.hid (show ∀ w1, Below w.heap.size w w1 → Calls _ _ _ w1 (Is (.bool false) w1) from fun w1 b => by have := N.out (leftOf G.rules j) w1 b; rw [hn] at this; exact this)
        clear hn
        generalize leftOf G.rules j = s at *
        go_wp2_with (go_at_call 27; refine (NN.out _ (X.out.alloc _).below).mono ?_; rintro e w1 ⟨rfl, hb⟩; have X := Lib.hid ((X.out.alloc _).went hb); have hr0 : w1.cell? ⟨wr.heap.size, 0, none⟩ = some (.int .i64 s) := cell_later hb (cell_new rfl rfl); obtain ⟨x0, x1, x2, x3⟩ := X.out.box; clear hb)
        go_roundw
        case rel => exact ⟨j + 1, m, by omega, by go_num, rfl, O2.out, X.out⟩
        case measure => simp [intOf]; omega
      | true =>
        have NN := Lib.hid (show ∀ w1, Below w.heap.size w w1 → Calls _ _ _ w1 (Is (.bool true) w1) from fun w1 b => by have := N.out (leftOf G.rules j) w1 b; rw [hn] at this; exact this)
        by_cases c1 : leftOf G.rules j < (G.terms.length : Int) + 1 + m
        · have O2 := Lib.hid (ordTo_skip O.out (.inr c1))
          clear hn
          generalize leftOf G.rules j = s at *
          go_wp2_with (go_at_call 27; refine (NN.out _ (X.out.alloc _).below).mono ?_; rintro e w1 ⟨rfl, hb⟩; have X := Lib.hid ((X.out.alloc _).went hb); have hr0 : w1.cell? ⟨wr.heap.size, 0, none⟩ = some (.int .i64 s) := cell_later hb (cell_new rfl rfl); obtain ⟨x0, x1, x2, x3⟩ := X.out.box; clear hb)
          go_roundw
          case rel => exact ⟨j + 1, m, by omega, by go_num, rfl, O2.out, X.out⟩
          case measure => simp [intOf]; omega
        · by_cases c2 : (G.terms.length : Int) + 1 + m < leftOf G.rules j
          · have F := Lib.hid (seen_far hlt O.out.1 hn c2)
            clear hn
            generalize leftOf G.rules j = s at *
            go_wp2_with (go_at_call 27; refine (NN.out _ (X.out.alloc _).below).mono ?_; rintro e w1 ⟨rfl, hb⟩; have X := Lib.hid ((X.out.alloc _).went hb); have hr0 : w1.cell? ⟨wr.heap.size, 0, none⟩ = some (.int .i64 s) := cell_later hb (cell_new rfl rfl); obtain ⟨x0, x1, x2, x3⟩ := X.out.box; clear hb)
            go_ret
            exact ⟨bool_of F.out, X.out.below⟩
          · have c3 : leftOf G.rules j = (G.terms.length : Int) + 1 + m := by omega
            have O2 := Lib.hid (ordTo_next O.out hn c3)
            clear hn c1 c2
            rw [c3] at h1 NN
            clear c3
            go_wp2_with (go_at_call 27; refine (NN.out _ (X.out.alloc _).below).mono ?_; rintro e w1 ⟨rfl, hb⟩; have X := Lib.hid ((X.out.alloc _).went hb); have hr0 : w1.cell? ⟨wr.heap.size, 0, none⟩ = some (.int .i64 ((G.terms.length : Int) + 1 + m)) := cell_later hb (cell_new rfl rfl); obtain ⟨x0, x1, x2, x3⟩ := X.out.box; clear hb)
            go_roundw
            case rel => exact ⟨j + 1, m + 1, by omega, by go_num, by go_num, O2.out, X.out⟩
            case measure => simp [intOf]; omega
    · have hE : j = G.rules.length := by omega
      subst hE
      have F := Lib.hid (ordTo_end O.out)
      go_wp2
      go_ret
      exact ⟨bool_of F.out, X.out.below⟩

set_option maxHeartbeats 2000000 in
set_option maxRecDepth 100000 in
theorem rof_any (h : Sh) (G : Gram) (s : Int) (w : World) (k : GAt h G w) (hr : G.rules.length ≤ 65536) :
    Calls Try.prog 37 #[gv h G, .int .i64 s] w (Listed (ofL G s) w) := by
  obtain ⟨i0, hi, hz0, hz1, hz2⟩ := info_parts info_int
  obtain ⟨a1, c1, a2, c2, a3, c3⟩ := h
  have hc3 := k.r2
  have X := Lib.hid (Bx.start ⟨a1, c1, a2, c2, a3, c3⟩ G w 25)
  have K := Lib.hid (fun w1 (b : Below w.heap.size w w1) => (k.went b).rules)
  clear k
  have HO := Lib.hid (show (w.alloc (.cells #[.slice a1 G.terms.length c1, .slice a2 G.nons.length c2, .slice a3 G.rules.length c3, .int .i64 G.start] 25)).ownsRow (w.heap.size + 1) 3 1 (.slice none 0 0) (ofI G.rules s 0).length (ivs (ofI G.rules s 0)) from ⟨rfl, .inl ⟨rfl, rfl⟩⟩)
  unfold gv
  dsimp only
  go_enter Try.func37, Try.ntmps37
  go_wp2
  go_loopw [5, 6] (fun v i wr => ∃ j : Nat, j ≤ G.rules.length ∧ i = .int .i64 j ∧ wr.ownsRow (w.heap.size + 1) 3 1 v (ofI G.rules s j).length (ivs (ofI G.rules s j)) ∧ Bx w ⟨a1, c1, a2, c2, a3, c3⟩ G wr) (fun _ i _ => G.rules.length - (intOf i).toNat)
  case atStart => exact ⟨0, Nat.zero_le _, rfl, HO.out, X.out⟩
  case round =>
    obtain ⟨j, hj, rfl, hO, hX⟩ := hrel
    obtain ⟨a', c', rfl⟩ := Sep.ownsRow_shape hO
    clear HO X
    have X := Lib.hid hX
    have HO := Lib.hid hO
    have hle := ofI_le G.rules s j
    clear hO hX
    by_cases hlt : j < G.rules.length
    · obtain ⟨b, o, ra, rc, e, h1, h2, h3, h4, h5⟩ := K.out _ X.out.below j hlt
      have e1 := leftOf_get hlt
      rw [← e1] at h1
      generalize G.rules[j].2 = rr at h2 h3 h4 h5
      try dsimp only at e
      subst e
      obtain ⟨x0, x1, x2, x3⟩ := X.out.box
      clear e1 h3
      by_cases hs : leftOf G.rules j = s
      · have HI := Lib.hid (ofI_hit hs)
        subst hs
        generalize leftOf G.rules j = s at *
        go_wp2_with (at_builtin; go_loud (refine wpList_append_own _ rfl _ _ 26 rfl (w.heap.size + 1) 3 i0 (.int .i64 0) 1 8 Try.underlying26 hi hz0 hz1 hz2 rfl (by decide) _ _ _ rfl (HO.out.alloc _) ⟨wr.heap.size, 0, none⟩ 1 1 [iv j] rfl rfl ?c1 ?c2 ?c3 ?c4 ?c5 ?_))
        case c1 =>
          intro i u hi
          match i, hi with
          | 0, hi => simp at hi; subst hi; simp [iv]
        case c2 => first | rfl | (intro u hu; simp at hu; subst hu; rfl)
        case c3 => unfold maxLen; omega
        case c4 => omega
        case c5 => have := X.out.size; simp; omega
        intro v' w2 hown' hgrow _
        have X := Lib.hid ((X.out.alloc _).grown hgrow fun q hq => (HO.out.lt q hq).1)
        have HO := Lib.hid (show w2.ownsRow (w.heap.size + 1) 3 1 v' (ofI G.rules s (j + 1)).length (ivs (ofI G.rules s (j + 1))) by rw [HI.out]; simpa [ivs] using hown')
        clear hown' hgrow
        go_wp2
        go_roundw
        case rel => exact ⟨j + 1, by omega, by go_num, HO.out, X.out⟩
        case measure => simp [intOf]; omega
      · have HI := Lib.hid (ofI_miss hs)
        have hb : (leftOf G.rules j == s) = false := by simpa using hs
        clear hs
        go_wp2_with (at_builtin; fail)
        go_roundw
        case rel => exact ⟨j + 1, by omega, by go_num, by rw [HI.out]; exact HO.out, X.out⟩
        case measure => simp [intOf]; omega
    · have hE : j = G.rules.length := by omega
      subst hE
      have HR := Lib.hid (Sep.Reads.of_row HO.out)
      have HN := Lib.hid (row_new (W := w) HO.out (by omega))
      obtain ⟨x0, x1, x2, x3⟩ := X.out.box
      go_wp2
      go_ret
      exact ⟨_, _, rfl, HR.out, HN.out, X.out.below⟩

theorem firstR_some {G : Gram} {i : Nat} {x : Int} {l : List Int} (h : ofL G ((G.terms.length : Int) + 1 + i) = x :: l) : x = (firstR G i : Int) := by
  unfold firstR
  unfold ofL ofI at h
  change List.map _ (ofN G ((G.terms.length : Int) + 1 + i)) = _ at h
  cases e : ofN G ((G.terms.length : Int) + 1 + i) with
  | nil => rw [e] at h; cases h
  | cons y r =>
    rw [e] at h
    simp only [List.map_cons, List.cons.injEq] at h
    simp [← h.1]
theorem firstR_none {G : Gram} {i : Nat} (h : ofL G ((G.terms.length : Int) + 1 + i) = []) : firstR G i = G.rules.length := by
  unfold firstR
  unfold ofL ofI at h
  change List.map _ (ofN G ((G.terms.length : Int) + 1 + i)) = _ at h
  rw [List.map_eq_nil_iff] at h
  simp [h]

set_option maxHeartbeats 2000000 in
theorem rordered_any (h : Sh) (G : Gram) (w : World) (k : GAt h G w) (hr : G.rules.length ≤ 65536) :
    Calls Try.prog 16 #[gv h G] w (Is (.bool (ordB G)) w) := by
  have hc3 := k.r2
  have hc1 := k.t2
  have hc2 := k.n2
  have X := Lib.hid (Bx.start h G w 25)
  have N := Lib.hid (fun s w1 (b : Below w.heap.size w w1) => rof_any h G s w1 (k.went b) hr)
  clear k
  unfold gv
  go_enter Try.func16, Try.ntmps16
  go_wp2
  go_loopw [3, 4] (fun v i wr => ∃ j : Nat, j ≤ G.nons.length ∧ i = .int .i64 j ∧ v = .int .i64 (lastR G j) ∧ RisesTo G j ∧ Bx w h G wr) (fun _ i _ => G.nons.length - (intOf i).toNat)
  case atStart => exact ⟨0, Nat.zero_le _, rfl, rfl, rises_zero G, X.out⟩
  case round =>
    clear X
    obtain ⟨j, hj, rfl, rfl, hO, hX⟩ := hrel
    have X := Lib.hid hX
    have O := Lib.hid hO
    obtain ⟨x0, x1, x2, x3⟩ := hX.box
    clear hO hX
    by_cases hlt : j < G.nons.length
    · have F1 := Lib.hid (fun x l h => firstR_some (G := G) (i := j) (x := x) (l := l) h)
      have F2 := Lib.hid (firstR_none (G := G) (i := j))
      have F3 := Lib.hid (rises_fail (G := G) (k := j) hlt)
      have F4 := Lib.hid (rises_next (G := G) (k := j) O.out)
      have F5 := Lib.hid (show lastR G (j + 1) = (firstR G j : Int) from rfl)
      have hfl := firstR_le G j
      generalize lastR G j = last at *
      generalize firstR G j = fr at *
      have NN := Lib.hid (N.out ((G.terms.length : Int) + 1 + j))
      generalize ofL G ((G.terms.length : Int) + 1 + j) = L at *
      by_cases hx : (fr : Int) < last
      · have FF := Lib.hid (F3.out hx)
        clear F3 F4 O
        rcases L with _ | ⟨x, l⟩
        · have hfr := F2.out rfl
          subst hfr
          clear F1 F2
          go_wp2_with (go_at_call 37; refine (NN.out _ X.out.below).mono ?_; rintro e w1 ⟨a', c', rfl, hr, hn, hb⟩; have X := Lib.hid (X.out.went hb); obtain ⟨x0, x1, x2, x3⟩ := X.out.box; clear hb hr hn)
          go_ret
          exact ⟨bool_of FF.out, X.out.below⟩
        · have hfr := F1.out x l rfl
          subst hfr
          clear F1 F2
          go_wp2_with (go_at_call 37; refine (NN.out _ X.out.below).mono ?_; rintro e w1 ⟨a', c', rfl, hr, hn, hb⟩; have X := Lib.hid (X.out.went hb); obtain ⟨x0, x1, x2, x3⟩ := X.out.box; obtain ⟨b, o, rfl, hc⟩ := hr 0 (by simp [ivs]); simp only [ivs, iv, List.map_cons, List.getElem_cons_zero, Nat.add_zero] at hc; clear hb hr hn)
          go_ret
          exact ⟨bool_of FF.out, X.out.below⟩
      · have FF := Lib.hid (F4.out hx)
        clear F3 F4 O
        rcases L with _ | ⟨x, l⟩
        · have hfr := F2.out rfl
          subst hfr
          clear F1 F2
          go_wp2_with (go_at_call 37; refine (NN.out _ X.out.below).mono ?_; rintro e w1 ⟨a', c', rfl, hr, hn, hb⟩; have X := Lib.hid (X.out.went hb); obtain ⟨x0, x1, x2, x3⟩ := X.out.box; clear hb hr hn)
          go_roundw
          case rel => exact ⟨j + 1, by omega, by go_num, by rw [F5.out], FF.out, X.out⟩
          case measure => simp [intOf]; omega
        · have hfr := F1.out x l rfl
          subst hfr
          clear F1 F2
          go_wp2_with (go_at_call 37; refine (NN.out _ X.out.below).mono ?_; rintro e w1 ⟨a', c', rfl, hr, hn, hb⟩; have X := Lib.hid (X.out.went hb); obtain ⟨x0, x1, x2, x3⟩ := X.out.box; obtain ⟨b, o, rfl, hc⟩ := hr 0 (by simp [ivs]); simp only [ivs, iv, List.map_cons, List.getElem_cons_zero, Nat.add_zero] at hc; clear hb hr hn)
          go_roundw
          case rel => exact ⟨j + 1, by omega, by go_num, by rw [F5.out], FF.out, X.out⟩
          case measure => simp [intOf]; omega
    · have hE : j = G.nons.length := by omega
      subst hE
      have F := Lib.hid (rises_end O.out)
      go_wp2
      go_ret
      exact ⟨bool_of F.out, X.out.below⟩

end Go.Proofs.Ytimfiaphhomelaa.Gr
