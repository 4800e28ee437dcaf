/-
  The walk of the statement on a valid grammar: each symbol is found by its name, is a terminal or a nonterminal, each rule belongs to its left side.
-/
import Derived.Test.YtflljgakdakfdaaGramLawSame
namespace Go.Proofs.Ytflljgakdakfdaa.Gr
open Go.RowKit Go.Maps
set_option linter.unusedVariables false

/-- What a valid grammar's symbol is. -/
structure Sym (G : Gram) (s : Int) : Prop where
  find : findI G (nameS G s) = s
  one : (termB G s == nonB G s) = false
  rules : nonB G s = decide (0 < (ofL G s).length)
theorem sym_of {G : Gram} (hv : checkN G = 0) {j : Nat} (hj : j < top G) : Sym G ((j : Int) + 1) := by
  obtain ⟨h0, h1, h2, h3, h4, h5⟩ := check_ok hv
  refine ⟨once_find h2 hj, ?_, ?_⟩
  · rw [beq_eq_false_iff_ne]
    intro e
    cases hn : nonB G ((j : Int) + 1) with
    | true =>
      rw [hn, termB_iff] at e
      have := nonB_iff.1 hn
      omega
    | false =>
      have h := nonB_not.1 hn
      rw [hn, ← Bool.not_eq_true, termB_iff] at e
      unfold top at hj
      omega
  · rw [ofL_length]
    exact ruled_of h5 h3 _

/-- The rules that are listed for a symbol are its own. -/
theorem listed_own {G : Gram} {s : Int} {i : Nat} (hi : i < (ofL G s).length) : ∃ k : Nat, (ofL G s)[i] = (k : Int) ∧ k < G.rules.length ∧ ruleB G k = true ∧ (ruleR G k).1 = s := by
  have hm : (ofL G s)[i] ∈ ofL G s := List.getElem_mem hi
  unfold ofL ofI at hm
  obtain ⟨k, hk, e⟩ := List.mem_map.1 hm
  obtain ⟨h1, h2⟩ := mem_ofTo.1 hk
  refine ⟨k, e.symm, h1, (rule_in h1).1, ?_⟩
  rw [(rule_in h1).2, ← leftOf_get h1]
  exact h2

theorem sum_next (G : Gram) (k : Nat) : (sumTo G.rules G.rules.length k : Int) + ((ofL G (k : Int)).length : Int) = (sumTo G.rules G.rules.length (k + 1) : Int) := by
  rw [ofL_length]
  show _ = ((sumTo G.rules G.rules.length k + (ofTo G.rules (k : Int) G.rules.length).length : Nat) : Int)
  unfold ofN
  omega
theorem sum_le (R : List (Int × List Int)) (m k : Nat) : sumTo R m k ≤ m := by
  rw [sum_count]
  exact Nat.le_trans (List.length_filter_le _ _) (by simp)

set_option maxHeartbeats 16000000 in
set_option maxRecDepth 100000 in
theorem names_law (h : Sh) (G : Gram) (w : World) (k : GAt h G w) :
    Calls Try.prog 5 #[gv h G] w (Is (.bool true) w) := by
  have X := Lib.hid (Bx.start h G w 25)
  have MU := Lib.hid (fun w1 (b : Below w.heap.size w w1) => much_any h G w1 (k.went b))
  have CK := Lib.hid (fun w1 (b : Below w.heap.size w w1) => check_any h G w1 (k.went b))
  have AW := Lib.hid awake_any
  have KG := Lib.hid k
  clear k
  unfold gv
  go_enter Try.func5, Try.ntmps5
  go_wp2_with fail
  refine (MU.out _ X.out.below).mono ?_
  rintro e w1 ⟨n, rfl, hn, hb⟩
  have X := Lib.hid (X.out.went hb)
  obtain ⟨x0, x1, x2, x3⟩ := X.out.box
  clear hb MU
  by_cases hn9 : 600 < n
  · clear hn
    go_wp2_with (go_at_call 7; refine (AW.out _).mono ?_; rintro e w2 ⟨rfl, hb⟩; have HB := Lib.hid (step X.out.below hb); clear hb)
    go_ret
    exact ⟨rfl, HB.out⟩
  have ht : top G ≤ 600 := by unfold top; omega
  have hr : G.rules.length ≤ 600 := by omega
  clear hn
  by_cases hv : checkN G = 0
  · have CK := Lib.hid (show ∀ w1, Below w.heap.size w w1 → Calls _ _ _ w1 (Is (.int .i64 0) w1) from fun w1 b => by have := CK.out w1 b; rw [hv] at this; exact this)
    have SY := Lib.hid (fun j (hj : j < top G) => sym_of hv hj)
    have SU := Lib.hid (show (sumTo G.rules G.rules.length (top G + 1) : Int) = G.rules.length by rw [sum_all (check_ok hv).2.2.2.1])
    have TP := Lib.hid (fun w1 (b : Below w.heap.size w w1) => top_any h G w1 (KG.out.went b))
    have TM := Lib.hid (fun s w1 (b : Below w.heap.size w w1) => term_any h G s w1 (KG.out.went b))
    have NN := Lib.hid (fun s w1 (b : Below w.heap.size w w1) => non_any h G s w1 (KG.out.went b))
    have NM := Lib.hid (fun s w1 (b : Below w.heap.size w w1) => name_any h G s w1 (KG.out.went b))
    have FI := Lib.hid (fun t w1 (b : Below w.heap.size w w1) => find_any h G t w1 (KG.out.went b))
    have OF := Lib.hid (fun s w1 (b : Below w.heap.size w w1) => of_any h G s w1 (KG.out.went b) (by omega))
    have RL := Lib.hid (fun i w1 (b : Below w.heap.size w w1) => rule_any h G i w1 (KG.out.went b))
    have LO := Lib.hid (fun s => show (ofL G s).length ≤ 600 from Nat.le_trans (ofI_le _ _ _) hr)
    clear hv
    go_wp2_with (go_at_call 10; refine (CK.out _ X.out.below).mono ?_; rintro e w2 ⟨rfl, hb⟩; have X := Lib.hid (X.out.went hb); clear hb)
    clear x0 x1 x2 x3 CK KG
    have X0 := X
    clear X
    go_loopw [3] (fun i wr => ∃ j : Nat, j ≤ top G ∧ i = .int .i64 ((j : Int) + 1) ∧ Bx w h G wr) (fun i _ => (top G + 1) - (intOf i).toNat)
    case atStart => exact ⟨0, Nat.zero_le _, rfl, X0.out⟩
    case round =>
      clear X0
      obtain ⟨j, hj, rfl, hX⟩ := hrel
      have X := Lib.hid hX
      obtain ⟨x0, x1, x2, x3⟩ := hX.box
      clear hX
      by_cases hlt : j < top G
      · obtain ⟨s1, s2, s3⟩ := SY.out j hlt
        have NM1 := Lib.hid (NM.out ((j : Int) + 1))
        have FI1 := Lib.hid (FI.out (nameS G ((j : Int) + 1)))
        have TM1 := Lib.hid (TM.out ((j : Int) + 1))
        have NN1 := Lib.hid (NN.out ((j : Int) + 1))
        have OF1 := Lib.hid (OF.out ((j : Int) + 1))
        have hLo := LO.out ((j : Int) + 1)
        rw [s1] at FI1
        generalize nameS G ((j : Int) + 1) = nm at NM1 FI1
        generalize termB G ((j : Int) + 1) = tb at TM1 s2
        generalize nonB G ((j : Int) + 1) = nb at NN1 s2 s3
        generalize ofL G ((j : Int) + 1) = L at OF1 s3 hLo
        clear s1
        have key : ∀ (P : Prop), (tb = true → nb = false → L = [] → P) → (∀ x l, tb = false → nb = true → L = x :: l → P) → P := fun P f g => by
          cases L with
          | nil =>
            simp at s3
            subst s3
            cases tb
            · simp at s2
            · exact f rfl rfl rfl
          | cons x l =>
            simp at s3
            subst s3
            cases tb
            · exact g x l rfl rfl rfl
            · simp at s2
        have KEY := Lib.hid key
        clear key s2 s3
        refine KEY.out _ (fun e1 e2 e3 => ?_) (fun x l e1 e2 e3 => ?_)
        all_goals
          subst e1
          subst e2
          subst e3
          clear KEY
          go_wp2_with (go_at_call 12; refine (TP.out _ X.out.below).mono ?_; rintro e w4 ⟨rfl, hb⟩; have X := Lib.hid (X.out.went hb); clear hb)
          clear x0 x1 x2 x3
          obtain ⟨x0, x1, x2, x3⟩ := X.out.box
          have HQ := Lib.hid (four x0 x1 x2 x3)
          have hbd := drawn w4
          clear x0 x1 x2 x3
          go_region_held3 (fun w' => w'.cell? ⟨w.heap.size, 0, none⟩ = some (.slice h.a1 G.terms.length h.c1) ∧ w'.cell? ⟨w.heap.size, 1, none⟩ = some (.slice h.a2 G.nons.length h.c2) ∧ w'.cell? ⟨w.heap.size, 2, none⟩ = some (.slice h.a3 G.rules.length h.c3) ∧ w'.cell? ⟨w.heap.size, 3, none⟩ = some (.int .i64 G.start) ∧ Below w4.heap.size w4 w')
            (exact HQ.out _ (by assumption))
            (first
              | (go_at_call 19; refine (NM1.out _ (step X.out.below hbd)).mono ?_; rintro e v1 ⟨rfl, hb⟩; have l1 : Below w4.heap.size w4 v1 := step hbd hb; clear hb)
              | (go_at_call 21; refine (FI1.out _ (step X.out.below l1)).mono ?_; rintro e v2 ⟨rfl, hb⟩; have l2 : Below w4.heap.size w4 v2 := step l1 hb; clear hb)
              | (go_at_call 14; refine (TM1.out _ (step X.out.below l2)).mono ?_; rintro e v3 ⟨rfl, hb⟩; have l3 : Below w4.heap.size w4 v3 := step l2 hb; clear hb)
              | (go_at_call 16; refine (NN1.out v3 (step X.out.below l3)).mono ?_; rintro e v4 ⟨rfl, hb⟩; have l4 : Below w4.heap.size w4 v4 := step l3 hb; clear hb)
              | (go_at_call 16; refine (NN1.out v4 (step X.out.below l4)).mono ?_; rintro e v5 ⟨rfl, hb⟩; have l5 : Below w4.heap.size w4 v5 := step l4 hb; clear hb)
              | (go_at_call 24; refine (OF1.out _ (step X.out.below l5)).mono ?_; rintro e v6 ⟨a', c', rfl, hR, hnew, hb⟩; have l6 : Below w4.heap.size w4 v6 := step l5 hb; clear hb hR hnew)
              | fail)
          go_wp2
          go_roundw
          case rel => exact ⟨j + 1, by omega, by go_num, X.out.went l6⟩
          case measure => simp [intOf]; omega
      · go_wp2_with (go_at_call 12; refine (TP.out _ X.out.below).mono ?_; rintro e w4 ⟨rfl, hb⟩; have X := Lib.hid (X.out.went hb); clear hb)
        clear x0 x1 x2 x3 SY hlt hj NM FI TM NN
        have X0 := X
        clear X
        go_loopw [4, 5] (fun v i wr => ∃ j : Nat, j ≤ top G + 1 ∧ i = .int .i64 j ∧ v = .int .i64 (sumTo G.rules G.rules.length j) ∧ Bx w h G wr) (fun _ i _ => (top G + 2) - (intOf i).toNat)
        case atStart => exact ⟨0, by omega, rfl, rfl, X0.out⟩
        case round =>
          clear X0
          obtain ⟨j, hj, rfl, rfl, hX⟩ := hrel
          have X := Lib.hid hX
          obtain ⟨x0, x1, x2, x3⟩ := hX.box
          clear hX
          by_cases hlt : j ≤ top G
          · have OF1 := Lib.hid (OF.out (j : Int))
            have hLo := LO.out (j : Int)
            have SN := Lib.hid (sum_next G j)
            have hsu := sum_le G.rules G.rules.length j
            have OWN := Lib.hid (fun i hi => listed_own (G := G) (s := (j : Int)) (i := i) hi)
            generalize hL : ofL G (j : Int) = L at OF1 hLo SN OWN
            generalize hS1 : sumTo G.rules G.rules.length j = su at SN hsu
            generalize hS2 : sumTo G.rules G.rules.length (j + 1) = su2 at SN
            have HS2 := Lib.hid hS2
            clear hL hS1 hS2
            go_wp2_with (first
              | (go_at_call 12; refine (TP.out _ X.out.below).mono ?_; rintro e w4 ⟨rfl, hb⟩; have X := Lib.hid (X.out.went hb); obtain ⟨x0, x1, x2, x3⟩ := X.out.box; clear hb)
              | (go_at_call 24; refine (OF1.out _ X.out.below).mono ?_; rintro e w5 ⟨a', c', rfl, hR, hnew, hb⟩; have X := Lib.hid (X.out.went hb); have HR := Lib.hid hR; clear hb hR hnew))
            clear x0 x1 x2 x3
            have X1 := X
            clear X
            go_loopw [7] (fun i wr => ∃ m : Nat, m ≤ L.length ∧ i = .int .i64 m ∧ Bx w h G wr ∧ Sep.Reads a' (ivs L) wr) (fun i _ => L.length - (intOf i).toNat)
            case atStart => exact ⟨0, Nat.zero_le _, rfl, X1.out, HR.out⟩
            case round =>
              clear X1 HR
              obtain ⟨m, hm, rfl, hX, hR⟩ := hrel
              have X := Lib.hid hX
              have HR := Lib.hid hR
              clear hX hR
              by_cases hlm : m < L.length
              · obtain ⟨b, o, rfl, hc⟩ := int_at HR.out hlm
                obtain ⟨kk, e1, e2, e3, e4⟩ := OWN.out m hlm
                rw [e1] at hc
                have RL1 := Lib.hid (RL.out (kk : Int))
                rw [e3] at RL1
                generalize ruleR G (kk : Int) = r at RL1 e4
                clear e1 e2 e3
                obtain ⟨rl, rr⟩ := r
                dsimp only at e4
                subst e4
                obtain ⟨x0, x1, x2, x3⟩ := X.out.box
                have HQ := Lib.hid (five x0 x1 x2 x3 hc)
                have hbd := drawn wr
                have hbe : Below wr.heap.size wr (wr.alloc (.cells #[.int .i64 0, .slice none 0 0] 30)).drew := ((Below.refl _ _).alloc (Nat.le_refl _) _).drew
                have HT := Lib.hid (show ∀ w' u v, Below wr.heap.size wr w' → Below wr.heap.size wr ((w'.setCell ⟨wr.heap.size, 0, none⟩ u).setCell ⟨wr.heap.size, 1, none⟩ v) from fun w' u v hb => (hb.setCell (Nat.le_refl _) _).setCell (Nat.le_refl _) _)
                have Z0 := Lib.hid (show (wr.alloc (.cells #[.int .i64 0, .slice none 0 0] 30)).drew.cell? ⟨wr.heap.size, 0, none⟩ = some (.int .i64 0) from cell_new rfl rfl)
                have Z1 := Lib.hid (show (wr.alloc (.cells #[.int .i64 0, .slice none 0 0] 30)).drew.cell? ⟨wr.heap.size, 1, none⟩ = some (.slice none 0 0) from cell_new rfl rfl)
                have Z2 := Lib.hid (show (wr.alloc (.cells #[.int .i64 0, .slice none 0 0] 30)).drew.frozen? ⟨wr.heap.size, 0, none⟩ = false from free_new rfl)
                have Z3 := Lib.hid (show (wr.alloc (.cells #[.int .i64 0, .slice none 0 0] 30)).drew.frozen? ⟨wr.heap.size, 1, none⟩ = false from free_new rfl)
                go_wp2
                clear x0 x1 x2 x3 hc
                go_region_held3 (fun w' => w'.cell? ⟨w.heap.size, 0, none⟩ = some (.slice h.a1 G.terms.length h.c1) ∧ w'.cell? ⟨w.heap.size, 1, none⟩ = some (.slice h.a2 G.nons.length h.c2) ∧ w'.cell? ⟨w.heap.size, 2, none⟩ = some (.slice h.a3 G.rules.length h.c3) ∧ w'.cell? ⟨w.heap.size, 3, none⟩ = some (.int .i64 G.start) ∧ w'.cell? ⟨b, o + m, none⟩ = some (.int .i64 kk) ∧ Below wr.heap.size wr w')
                  (first | exact HQ.out _ (by assumption) | exact HQ.out _ (Below.alloc (by assumption) (Below.size (by assumption)) _) | exact HQ.out _ (HT.out _ _ _ (by assumption)))
                  (first
                    | (go_at_call 8; refine (RL1.out wr.drew (step X.out.below hbd)).mono ?_; rintro e v1 ⟨ra, rc, rfl, hR, hb⟩; have l1 : Below wr.heap.size wr v1 := step hbd hb; clear hb hR)
                    | (go_at_call 8; refine (RL1.out (wr.alloc (.cells #[.int .i64 0, .slice none 0 0] 30)).drew (step X.out.below hbe)).mono ?_; rintro e v1 ⟨ra, rc, rfl, hR, hb⟩; have l1 : Below wr.heap.size wr v1 := step hbe hb; have z0 := cell_later hb Z0.out; have z1 := cell_later hb Z1.out; have z2 := free_old hb Z2.out Z0.out; have z3 := free_old hb Z3.out Z0.out; clear hb hR)
                    | fail)
                all_goals
                  go_wp2
                  go_roundw
                  case rel => exact ⟨m + 1, by omega, by go_num, X.out.went (by first | exact l1.alloc l1.size _ | exact HT.out _ _ _ l1), HR.out.below (by first | exact l1.alloc l1.size _ | exact HT.out _ _ _ l1) (Nat.le_refl _)⟩
                  case measure => simp [intOf]; omega
              · have hE : m = L.length := by omega
                subst hE
                go_wp2
                go_roundw
                case rel => exact ⟨j + 1, by omega, by go_num, by rw [HS2.out, ← SN.out], X.out⟩
                case measure => simp [intOf]; omega
          · have hE : j = top G + 1 := by omega
            subst hE
            rw [SU.out]
            go_wp2_with (first
              | (go_at_call 12; refine (TP.out _ X.out.below).mono ?_; rintro e w4 ⟨rfl, hb⟩; have X := Lib.hid (X.out.went hb); obtain ⟨x0, x1, x2, x3⟩ := X.out.box; clear hb)
              | (go_at_call 7; refine (AW.out _).mono ?_; rintro e w5 ⟨rfl, hb⟩; have HB := Lib.hid (step X.out.below hb); clear hb))
            go_ret
            exact ⟨rfl, HB.out⟩
  · have hvb : (checkN G != 0) = true := by simpa using hv
    clear hv
    generalize checkN G = ck at *
    go_wp2_with (first
      | (go_at_call 10; refine (CK.out _ X.out.below).mono ?_; rintro e w2 ⟨rfl, hb⟩; have X := Lib.hid (X.out.went hb); clear hb)
      | (go_at_call 7; refine (AW.out _).mono ?_; rintro e w3 ⟨rfl, hb⟩; have HB := Lib.hid (step X.out.below hb); clear hb))
    go_ret
    exact ⟨rfl, HB.out⟩

end Go.Proofs.Ytflljgakdakfdaa.Gr
