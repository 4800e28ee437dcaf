/-
  The walk of the statement on rules: no right side has a lesser word than its left side, and one of a symbol's rules has its word. No condition.
-/
import Derived.Test.YtpfokebbpbigdaaLeastOf
import Derived.Test.YtpfokebbpbigdaaLeastAwake
import Derived.Test.YtpfokebbpbigdaaLeastInts
import Derived.Test.YtpfokebbpbigdaaLeastMet
import Derived.Test.YtpfokebbpbigdaaGramOrd
namespace Go.Proofs.Ytpfokebbpbigdaa.Le
open Go.RowKit Go.Maps
open Go.Proofs.Ytpfokebbpbigdaa.Gr
open Go.Proofs.Ytpfokebbpbigdaa.Rw (Bk)
set_option linter.unusedVariables false

def L1Rel (W W5 : World) (h : Sh) (G : Gram) (i : Value) (w : World) : Prop :=
  ∃ j : Nat, j ≤ G.nons.length ∧ i = .int .i64 ((G.terms.length : Int) + 1 + j) ∧ Bx W h G w ∧ Below W5.heap.size W5 w
def L2Rel (W W5 : World) (h : Sh) (G : Gram) (T : Int → Ans) (s : Int) (m i : Value) (w : World) : Prop :=
  ∃ (j : Nat) (b : Bool), j ≤ (ofL G s).length ∧ i = .int .i64 j ∧ m = .bool b ∧ Met G T s j b ∧ Bx W h G w ∧ Below W5.heap.size W5 w

set_option maxHeartbeats 16000000 in
set_option maxRecDepth 100000 in
theorem rules_law (h : Sh) (G : Gram) (w : World) (k : GAt h G w) :
    Calls Try.prog 4 #[gv h G] w (Is (.bool true) w) := by
  obtain ⟨a1, c1, a2, c2, a3, c3⟩ := h
  have X := Lib.hid (Bx.start ⟨a1, c1, a2, c2, a3, c3⟩ G w 25)
  have MU := Lib.hid (fun w1 (b : Below w.heap.size w w1) => much_any ⟨a1, c1, a2, c2, a3, c3⟩ G w1 (k.went b))
  have O1 := Lib.hid (fun w1 (b : Below w.heap.size w w1) => of_any2 ⟨a1, c1, a2, c2, a3, c3⟩ G w1 (k.went b))
  have CK := Lib.hid (fun w1 (b : Below w.heap.size w w1) => rcheck_any ⟨a1, c1, a2, c2, a3, c3⟩ G w1 (k.went b))
  have TO := Lib.hid (fun w1 (b : Below w.heap.size w w1) => rtop_any ⟨a1, c1, a2, c2, a3, c3⟩ G w1 (k.went b))
  have OF := Lib.hid (fun s w1 (b : Below w.heap.size w w1) hr => rof_any ⟨a1, c1, a2, c2, a3, c3⟩ G s w1 (k.went b) hr)
  have AW := Lib.hid (fun w1 (b : Below w.heap.size w w1) => awake_any w1)
  have KG := Lib.hid k
  clear k
  obtain ⟨x0, x1, x2, x3⟩ := X.out.box
  try dsimp only at x0 x1 x2 x3
  unfold gv
  dsimp only
  go_enter Try.func4, Try.ntmps4
  go_wp2_with fail
  refine (MU.out _ X.out.below).mono ?_
  rintro e w1 ⟨n, rfl, hn, hb⟩
  have X1 := Lib.hid (X.out.went hb)
  clear hb MU x0 x1 x2 x3 X
  obtain ⟨x0, x1, x2, x3⟩ := X1.out.box
  try dsimp only at x0 x1 x2 x3
  by_cases hn9 : 200 < n
  · clear hn
    go_wp2_with (go_at_call 7; refine (AW.out _ X1.out.below).mono ?_; rintro e w2 ⟨rfl, hb⟩; have HB := Lib.hid (Gr.step X1.out.below hb); clear hb)
    go_ret
    exact ⟨rfl, HB.out⟩
  clear hn
  by_cases hc : checkN G = 0
  · have SM := Lib.hid (sml_of hc)
    have AN := Lib.hid (show nilB G = false from by unfold nilB; rw [decide_eq_true hc]; rfl)
    have htop : top G ≤ 240 := by have := SM.out.n; have := SM.out.t; unfold top; omega
    have HT := Lib.hid (show (top G : Int) = (G.terms.length : Int) + (G.nons.length : Int) from by unfold top; omega)
    have ht := SM.out.t
    have hnn := SM.out.n
    rw [hc] at CK
    clear hc
    go_wp2_with fail
    refine (CK.out _ X1.out.below).mono ?_
    rintro e w2 ⟨rfl, hb⟩
    have X2 := Lib.hid (X1.out.went hb)
    clear hb CK x0 x1 x2 x3 X1
    obtain ⟨x0, x1, x2, x3⟩ := X2.out.box
    try dsimp only at x0 x1 x2 x3
    go_wp2_with fail
    refine (O1.out _ X2.out.below).mono ?_
    rintro e w3 ⟨v, rfl, hv, hb, hoc⟩
    have X3 := Lib.hid (X2.out.went hb)
    have OK := Lib.hid (hoc AN.out).1
    have CL := Lib.hid (hoc AN.out).2
    rw [AN.out] at hv
    generalize ansT G = T at *
    have WD := Lib.hid (fun s w4 (b : Below w3.heap.size w3 w4) => word_any false v T s w4 (hv.went b))
    have LN := Lib.hid (fun l a c w4 (b : Below w3.heap.size w3 w4) hR hl => line_any false v T l a c w4 (hv.went b) hR hl)
    have BN := Lib.hid hv.bnd
    have hlt0 : G.terms.length ≤ 1000 := by omega
    clear hb hoc hv O1 x0 x1 x2 x3 X2 AN
    obtain ⟨x0, x1, x2, x3⟩ := X3.out.box
    try dsimp only at x0 x1 x2 x3
    go_wp2
    clear x0 x1 x2 x3
    go_loopw [4] (fun i wr => L1Rel w w3 ⟨a1, c1, a2, c2, a3, c3⟩ G i wr) (fun i _ => ((G.terms.length : Int) + 1 + G.nons.length - intOf i).toNat)
    case atStart => exact ⟨0, Nat.zero_le _, by simp, X3.out, .refl _ _⟩
    case round =>
      clear X3
      obtain ⟨j, hj, rfl, hX, hB⟩ := hrel
      have X := Lib.hid hX
      have B := Lib.hid hB
      clear hX hB
      obtain ⟨x0, x1, x2, x3⟩ := X.out.box
      try dsimp only at x0 x1 x2 x3
      by_cases hlt : j < G.nons.length
      · have NB := Lib.hid (show nonB G ((G.terms.length : Int) + 1 + j) = true from by rw [nonB_iff]; omega)
        have hd : decide ((G.terms.length : Int) + 1 + (j : Int) ≤ (top G : Int)) = true := decide_eq_true (by rw [HT.out]; omega)
        obtain ⟨s, hs⟩ : ∃ s : Int, s = (G.terms.length : Int) + 1 + (j : Int) := ⟨_, rfl⟩
        have HS := Lib.hid hs
        rw [← hs] at NB hd ⊢
        have hsb : s ≤ 1000 := by omega
        have hs0 : 0 ≤ s := by omega
        clear hs
        go_wp2_with fail
        refine (TO.out _ X.out.below).mono ?_
        rintro e w4 ⟨rfl, hb⟩
        have X4 := Lib.hid (X.out.went hb)
        have B4 := Lib.hid (Gr.step B.out hb)
        clear hb x0 x1 x2 x3 X B
        obtain ⟨x0, x1, x2, x3⟩ := X4.out.box
        try dsimp only at x0 x1 x2 x3
        go_wp2_with fail
        refine (WD.out s _ B4.out).mono ?_
        rintro e w5 ⟨ad, ac, rfl, hR, hb⟩
        have X5 := Lib.hid (X4.out.went hb)
        have B5 := Lib.hid (Gr.step B4.out hb)
        have R5 := Lib.hid hR
        clear hb hR x0 x1 x2 x3 X4 B4
        obtain ⟨x0, x1, x2, x3⟩ := X5.out.box
        try dsimp only at x0 x1 x2 x3
        go_wp2_with fail
        refine (OF.out s _ X5.out.below (by have := SM.out.r; omega)).mono ?_
        rintro e w6 ⟨la, lc, rfl, hR, hN, hb⟩
        have X6 := Lib.hid (X5.out.went hb)
        have B6 := Lib.hid (Gr.step B5.out hb)
        have R6 := Lib.hid (R5.out.below hb (Nat.le_refl _))
        have Q6 := Lib.hid hR
        clear hb hR hN x0 x1 x2 x3 X5 B5 R5
        have hTl := wordA_le (BN.out s)
        generalize hit : isA (T s) = it at *
        have HIT := Lib.hid hit
        clear hit
        have hLl := ofL_le G s
        have hrl := SM.out.r
        go_wp2
        go_loopw [8, 9] (fun m i wr => L2Rel w w6 ⟨a1, c1, a2, c2, a3, c3⟩ G T s m i wr) (fun _ i _ => (ofL G s).length - (intOf i).toNat)
        case atStart => exact ⟨0, false, Nat.zero_le _, rfl, rfl, met_zero _ _ _, X6.out, .refl _ _⟩
        case round =>
          clear X6
          obtain ⟨i, b, hi, rfl, rfl, hM, hX, hB⟩ := hrel
          have M := Lib.hid hM
          have X := Lib.hid hX
          have B := Lib.hid hB
          clear hM hX hB
          by_cases hlt2 : i < (ofL G s).length
          · obtain ⟨kk, hLk, hkk, hls⟩ := ofL_at hlt2
            have RI : rightI G (ofL G s)[i] = G.rules[kk].2 := by rw [hLk, rightI_get hkk]
            have hbt : betterS (J T G.rules[kk].2) (T s) = false := by
              have := rule_not CL.out hkk hls
              rwa [rightI_get hkk] at this
            have MN := Lib.hid (fun (ha : isA (J T G.rules[kk].2) = false) => met_no M.out hlt2 (by rw [RI]; exact ha))
            have MH := Lib.hid (fun (e : b = true) => show Met G T s (i + 1) true from met_had (by have := M.out; rwa [e] at this))
            have MS := Lib.hid (fun (e : b = false) (ha : isA (J T G.rules[kk].2) = true) (hit : isA (T s) = true) => show Met G T s (i + 1) (decide (wordA (T s) = wordA (J T G.rules[kk].2))) from by
              have := met_step (by have := M.out; rwa [e] at this) hlt2 (by rw [RI]; exact ha) hit
              rwa [RI] at this)
            have RT := Lib.hid (fun ha => rule_tells hbt ha)
            obtain ⟨b2, o2, e2, hcl⟩ := int_at (Sep.Reads.below Q6.out B.out (Nat.le_refl _)) hlt2
            rw [hLk] at hcl
            obtain ⟨bb, o, ra, rc, e3, h1, h2, h3, h4, h5⟩ := KG.out.rules kk hkk
            try dsimp only at e3
            have hr1 := KG.out.r1
            try dsimp only at hr1
            have hal := wordA_le (bd_join T G.rules[kk].2)
            have LC := Lib.hid (fun w7 (bw : Below wr.heap.size wr w7) => show Calls Try.prog 16 #[v, .slice ra G.rules[kk].2.length rc] w7 (Lined (J T G.rules[kk].2) w7) from
              LN.out G.rules[kk].2 ra rc w7 (Gr.step (Gr.step B6.out B.out) bw) (Sep.Reads.below h3 (Gr.step X.out.below bw) (Nat.le_refl _)) (by omega))
            subst e2 e3
            obtain ⟨x0, x1, x2, x3⟩ := X.out.box
            try dsimp only at x0 x1 x2 x3
            have HQ := Lib.hid (show ∀ w', Below wr.heap.size wr w' → w'.cell? ⟨w.heap.size, 2, none⟩ = some (.slice (some ⟨bb, o, none⟩) G.rules.length c3) ∧ w'.cell? ⟨b2, o2 + i, none⟩ = some (.int .i64 (kk : Int)) ∧ w'.cell? ⟨bb, o + kk * 2 + 1, none⟩ = some (.slice ra G.rules[kk].2.length rc) ∧ Below wr.heap.size wr w' from
              fun w' hb => ⟨cell_later hb x2, cell_later hb hcl, cell_later (Gr.step X.out.below hb) h2, hb⟩)
            have hbd := drawn wr
            have i0 : (0 : Int) ≤ (i : Int) := by omega
            have i1 : (i : Int) < ((ofL G s).length : Int) := by omega
            have k0 : (0 : Int) ≤ (kk : Int) := by omega
            have k1 : (kk : Int) < (G.rules.length : Int) := by omega
            clear h1 h2 h3 h4 hLk hls RI hbt hcl x0 x1 x2 x3
            generalize G.rules[kk].2 = R at *
            generalize J T R = aj at *
            generalize hT : T s = t at *
            go_wp2
            go_region_held3 (fun w' => w'.cell? ⟨w.heap.size, 2, none⟩ = some (.slice (some ⟨bb, o, none⟩) G.rules.length c3) ∧ w'.cell? ⟨b2, o2 + i, none⟩ = some (.int .i64 (kk : Int)) ∧ w'.cell? ⟨bb, o + kk * 2 + 1, none⟩ = some (.slice ra R.length rc) ∧ Below wr.heap.size wr w')
              (exact HQ.out _ (by assumption))
              (first
                | (go_at_call 16; refine (LC.out _ hbd).mono ?_; rintro e w7 ⟨yd, yc, rfl, hR7, hb⟩; have kB : Below wr.heap.size wr w7 := Gr.step hbd hb; clear hb)
                | fail)
            have X7 := Lib.hid (X.out.went kB)
            have B7 := Lib.hid (Gr.step B.out kB)
            have Y7 := Lib.hid hR7
            have T7 := Lib.hid (Sep.Reads.below R6.out B7.out (Nat.le_refl _))
            clear hR7 kB X B LC HQ hbd
            have HTT := Lib.hid hT
            clear hT
            cases hia : isA aj with
            | false =>
              have M1 := Lib.hid (MN.out hia)
              clear hia MN MH MS RT
              cases b
              all_goals
                go_wp2
                go_roundw
                case rel => exact ⟨i + 1, _, by omega, by go_num, rfl, M1.out, X7.out, B7.out⟩
                case measure => simp [intOf]; omega
            | true =>
              obtain ⟨q1, q2, q3⟩ := RT.out hia
              have e : it = true := by rw [← HIT.out]; exact q1
              have M2 := Lib.hid (fun e => MS.out e hia q1)
              have d1 : decide ((wordA aj).length < (wordA t).length) = false := decide_eq_false q2
              have Q3 := Lib.hid q3
              subst e
              clear hia MN MS RT q1 q2 q3 HIT
              have IC := Lib.hid (fun w8 (bw : Below w7.heap.size w7 w8) => ints_any (wordA t) (wordA aj) ad yd ac yc w8 (T7.out.below bw (Nat.le_refl _)) (Y7.out.below bw (Nat.le_refl _)) (by omega) (by omega))
              by_cases hle : (wordA aj).length = (wordA t).length
              · have d2 : (((wordA aj).length : Int) == ((wordA t).length : Int)) = true := by rw [beq_iff_eq]; omega
                have BC := Lib.hid (before_any (wordA aj) (wordA t) yd ad yc ac w7 Y7.out T7.out hle (by omega))
                rw [Q3.out hle] at BC
                clear hle
                cases b with
                | true =>
                  have M1 := Lib.hid (MH.out rfl)
                  clear MH M2 IC
                  go_wp2_with (go_at_call 19; ((with_reducible refine BC.out.mono ?_)); rintro e w8 ⟨rfl, hb⟩; have X8 := Lib.hid (X7.out.went hb); have B8 := Lib.hid (Gr.step B7.out hb); clear hb)
                  go_roundw
                  case rel => exact ⟨i + 1, true, by omega, by go_num, rfl, M1.out, X8.out, B8.out⟩
                  case measure => simp [intOf]; omega
                | false =>
                  have M1 := Lib.hid (M2.out rfl)
                  clear MH M2
                  generalize decide (wordA t = wordA aj) = dd at *
                  go_wp2_with (first
                    | (go_at_call 19; ((with_reducible refine BC.out.mono ?_)); rintro e w8 ⟨rfl, hb⟩; have X8 := Lib.hid (X7.out.went hb); have B8 := Lib.hid (Gr.step B7.out hb); have IC8 := Lib.hid (IC.out _ hb); clear hb)
                    | (go_at_call 15; ((with_reducible refine IC8.out.mono ?_)); rintro e w9 ⟨rfl, hb⟩; have X9 := Lib.hid (X8.out.went hb); have B9 := Lib.hid (Gr.step B8.out hb); clear hb))
                  go_roundw
                  case rel => exact ⟨i + 1, dd, by omega, by go_num, rfl, M1.out, X9.out, B9.out⟩
                  case measure => simp [intOf]; omega
              · have d2 : (((wordA aj).length : Int) == ((wordA t).length : Int)) = false := by rw [beq_eq_false_iff_ne]; omega
                clear hle
                cases b with
                | true =>
                  have M1 := Lib.hid (MH.out rfl)
                  clear MH M2 IC
                  go_wp2
                  go_roundw
                  case rel => exact ⟨i + 1, true, by omega, by go_num, rfl, M1.out, X7.out, B7.out⟩
                  case measure => simp [intOf]; omega
                | false =>
                  have M1 := Lib.hid (M2.out rfl)
                  clear MH M2
                  generalize decide (wordA t = wordA aj) = dd at *
                  have IC7 := Lib.hid (IC.out _ (.refl _ _))
                  go_wp2_with (go_at_call 15; ((with_reducible refine IC7.out.mono ?_)); rintro e w9 ⟨rfl, hb⟩; have X9 := Lib.hid (X7.out.went hb); have B9 := Lib.hid (Gr.step B7.out hb); clear hb)
                  go_roundw
                  case rel => exact ⟨i + 1, dd, by omega, by go_num, rfl, M1.out, X9.out, B9.out⟩
                  case measure => simp [intOf]; omega
          · have E := met_end M.out hlt2 OK.out CL.out NB.out
            rw [HIT.out] at E
            subst E
            have B7 := Lib.hid (Gr.step B6.out B.out)
            go_wp2
            go_roundw
            case rel => exact ⟨j + 1, by omega, by rw [HS.out]; push_cast; rfl, X.out, B7.out⟩
            case measure => have := HS.out; simp [intOf]; omega
      · have hd : decide ((G.terms.length : Int) + 1 + (j : Int) ≤ (top G : Int)) = false := decide_eq_false (by rw [HT.out]; omega)
        go_wp2_with fail
        refine (TO.out _ X.out.below).mono ?_
        rintro e w4 ⟨rfl, hb⟩
        have X4 := Lib.hid (X.out.went hb)
        clear hb x0 x1 x2 x3 X B
        go_wp2_with fail
        refine (AW.out _ X4.out.below).mono ?_
        rintro e w5 ⟨rfl, hb⟩
        have X5 := Lib.hid (X4.out.went hb)
        clear hb X4
        go_wp2
        go_ret
        exact ⟨rfl, X5.out.below⟩
  · have hb : (checkN G != 0) = true := by simpa using hc
    clear hc
    generalize checkN G = ck at *
    go_wp2_with fail
    refine (CK.out _ X1.out.below).mono ?_
    rintro e w2 ⟨rfl, hb2⟩
    have X2 := Lib.hid (X1.out.went hb2)
    clear hb2 x0 x1 x2 x3
    go_wp2_with (go_at_call 7; refine (AW.out _ X2.out.below).mono ?_; rintro e w3 ⟨rfl, hb⟩; have HB := Lib.hid (Gr.step X2.out.below hb); clear hb)
    go_ret
    exact ⟨rfl, HB.out⟩

end Go.Proofs.Ytpfokebbpbigdaa.Le
