/-
  The plain answers of layer 10: Of. No condition.
-/
import Derived.Test.YtoipinnfmjaaaaaDoorLeastRSt
import Derived.Test.YtoipinnfmjaaaaaDoorMMuch
import Derived.Deep.LoopGhost
import Derived.Deep.DeepCutAuto
import Derived.Deep.OwnRows
import Derived.RegionTactic
import Derived.BigRegion
namespace Go.Proofs.YtoipinnfmjaaaaaDoor.Le
open Go.RowKit Go.Maps
open Go.Proofs.YtoipinnfmjaaaaaDoor.Gr
open Go.Proofs.YtoipinnfmjaaaaaDoor.Rw (Bk IntsV row_shape)
set_option linter.unusedVariables false

set_option maxRecDepth 100000 in
set_option maxHeartbeats 16000000 in
theorem rof_any2 (h : Sh) (G : Gram) (w : World) (k : GAt h G w) :
    Calls Tryd.prog 15 #[gv h G] w (fun e w' => ∃ v, e = .returned v ∧ RVAt (nilB G) v (ansT G) w' ∧ Below w.heap.size w w' ∧ (nilB G = false → OkS G 4096 (ansT G) ∧ Cls G 4096 (ansT G))) := by
  obtain ⟨a1, c1, a2, c2, a3, c3⟩ := h
  have X := Lib.hid (Bx.start ⟨a1, c1, a2, c2, a3, c3⟩ G w 25)
  have C := Lib.hid (fun w1 (b : Below w.heap.size w w1) => rcheck_any ⟨a1, c1, a2, c2, a3, c3⟩ G w1 (k.went b))
  have T1 := Lib.hid (fun w1 (b : Below w.heap.size w w1) => rtop_any ⟨a1, c1, a2, c2, a3, c3⟩ G w1 (k.went b))
  obtain ⟨x0, x1, x2, x3⟩ := X.out.box
  try dsimp only at x0 x1 x2 x3
  by_cases hc : checkN G = 0
  · have SM := Lib.hid (sml_of hc)
    have KG := Lib.hid k
    have AN := Lib.hid (show nilB G = false ∧ ansT G = leastT G from ⟨by unfold nilB; rw [decide_eq_true hc]; rfl, by unfold ansT; rw [if_pos hc]⟩)
    have ht := SM.out.t
    have htop : top G ≤ 240 := by have := SM.out.n; unfold top; omega
    rw [hc] at C
    clear k hc
    unfold gv
    dsimp only
    go_enter Tryd.func15, Tryd.ntmps15
    go_upto_region 9 with (first
      | (go_at_call 6; refine (C.out _ X.out.below).mono ?_; rintro e w1 ⟨rfl, hb⟩; have X1 := Lib.hid (X.out.went hb); clear hb x0 x1 x2 x3; obtain ⟨x0, x1, x2, x3⟩ := X1.out.box; try dsimp only at x0 x1 x2 x3)
      | (go_at_call 16; refine (T1.out _ X1.out.below).mono ?_; rintro e w2 ⟨rfl, hb⟩; have X2 := Lib.hid (X1.out.went hb); clear hb x0 x1 x2 x3))
    have hm1 := fun w => show (Instr.makeSlice 59 (.int .i64 ((top G : Int) + 1)) (.int .i64 ((top G : Int) + 1))).run Tryd.prog w = _ from make_rows (top G + 1) (by omega) w
    have hm2 := fun w => show (Instr.makeSlice 60 (.int .i64 ((top G : Int) + 1)) (.int .i64 ((top G : Int) + 1))).run Tryd.prog w = _ from make_bools (top G + 1) (by omega) w
    go_cut [4] (fun s wx => RMid w ⟨a1, c1, a2, c2, a3, c3⟩ G (top G + 1) s wx)
    case first =>
      have hq2 : w.heap.size < w2.heap.size := X2.out.size
      go_region
      all_goals
        go_wp2_with fail
        go_meet
        case rel =>
          first
            | exact RMid.drew (RMid.of (((X2.out.alloc _).alloc _).alloc _) (by first | exact colA _ _ _ _ _ _ | exact colB _ _ _ _ _ _ | exact colC _ _ _ _ _ _) (by first | exact colA _ _ _ _ _ _ | exact colB _ _ _ _ _ _ | exact colC _ _ _ _ _ _) (by first | exact colA _ _ _ _ _ _ | exact colB _ _ _ _ _ _ | exact colC _ _ _ _ _ _) (by omega) (by omega) (by omega) (by omega) (by omega) (by omega) (by omega) (by simp))
    case rest =>
      obtain ⟨p, q1, q2, q3, rfl, hR, hX, l1, l2, l3⟩ := hcut
      obtain ⟨hi, hhi⟩ : ∃ hi, hi = p + 1 := ⟨_, rfl⟩
      rw [← hhi] at hR
      clear hhi hm1 hm2
      have S0 := Lib.hid (show RSt w ⟨a1, c1, a2, c2, a3, c3⟩ G p q1 q2 q3 hi (top G + 1) (fun _ => .none) wc from ⟨hX, ⟨_, hR⟩, l1, l2, l3⟩)
      have S1 := Lib.hid (S0.out.zero (by omega))
      obtain ⟨y0, y1, y2, yf⟩ := hR.box.three
      have z2 := hR.c2.at_ 0 (by omega)
      have zf := hR.c2.free
      have hpq : p ≠ q2 := hR.p2
      clear hR hX
      go_wp2
      clear y0 y1 y2 yf z2 zf S0 X1 X2 C T1
      go_loopw [5] (fun i wr => R1Rel w ⟨a1, c1, a2, c2, a3, c3⟩ G p q1 q2 q3 hi (top G + 1) i wr) (fun i _ => G.terms.length + 1 - (intOf i).toNat)
      case atStart => exact ⟨1, by omega, by omega, rfl, S1.out⟩
      case round =>
        clear S1
        obtain ⟨j, hj1, hj, rfl, hS⟩ := hrel
        have S := Lib.hid hS
        clear hS
        obtain ⟨x0, x1, x2, x3⟩ := S.out.x.box
        try dsimp only at x0 x1 x2 x3
        by_cases hlt : j < G.terms.length + 1
        · have hjn : j < top G + 1 := by unfold top; omega
          have S1 := Lib.hid (S.out.one hj1 hjn)
          have S2 := Lib.hid (show RSt w ⟨a1, c1, a2, c2, a3, c3⟩ G p q1 q2 q3 hi (top G + 1) (tabUp (j + 1)) (((wr.setCell ⟨q2, j, none⟩ (.bool true)).setCell ⟨q1, j, none⟩ (.slice (some ⟨wr.heap.size, 0, none⟩) 1 1)).alloc (.cells #[.int .i64 (j : Int)] 3)) by
            have := S1.out
            obtain ⟨f, hf⟩ := S.out.t
            rwa [set_comm _ _ _ _ _ _ _ hf.d12] at this)
          obtain ⟨f, hf⟩ := S.out.t
          obtain ⟨y0, y1, y2, yf⟩ := hf.box.three
          have z1 := hf.c1.at_ j hjn
          have z2 := hf.c2.at_ j hjn
          have zf1 := hf.c1.free
          have zf2 := hf.c2.free
          have e1 := hf.p1
          have e2 := hf.p2
          have e3 := hf.d12
          have e4 := Ne.symm hf.d12
          have k1 : q1 < wr.heap.size := hf.c1.lt
          have k2 : q2 < wr.heap.size := hf.c2.lt
          have k0 : p < wr.heap.size := hf.box.lt
          clear hf
          have hdc : decide ((j : Int) ≤ (G.terms.length : Int)) = true := decide_eq_true (by omega)
          have i0 : (0 : Int) ≤ (j : Int) := by omega
          have i1 : (j : Int) < (top G : Int) + 1 := by omega
          have HQ := Lib.hid (show ∀ w', Sep.Fr (fun k => k = q1 ∨ k = q2) wr w' → w'.cell? ⟨p, 0, none⟩ = some (.slice (some ⟨q1, 0, none⟩) (top G + 1) (top G + 1)) ∧ w'.cell? ⟨p, 1, none⟩ = some (.slice (some ⟨q2, 0, none⟩) (top G + 1) (top G + 1)) from
            fun w' hF => ⟨hF.cell y0 (by simp; omega), hF.cell y1 (by simp; omega)⟩)
          go_wp2
          go_region_held3 (fun w' => w'.cell? ⟨p, 0, none⟩ = some (.slice (some ⟨q1, 0, none⟩) (top G + 1) (top G + 1)) ∧ w'.cell? ⟨p, 1, none⟩ = some (.slice (some ⟨q2, 0, none⟩) (top G + 1) (top G + 1))) ((refine HQ.out _ ?_; repeat (first | exact Sep.Fr.refl _ _ | refine Sep.Fr.drew ?_ | refine Sep.Fr.alloc ?_ _ | refine Sep.Fr.setCell ?_ _ (Or.inl rfl) _ | refine Sep.Fr.setCell ?_ _ (Or.inr rfl) _))) (fail)
          all_goals
            go_wp2
            go_roundw
            case rel => exact ⟨j + 1, by omega, by omega, by go_num, by first | exact S1.out.went (drawn _) | exact S2.out.went (drawn _)⟩
            case measure => simp [intOf]; omega
        · have hE : j = G.terms.length + 1 := by omega
          have S1 := Lib.hid (show RSt w ⟨a1, c1, a2, c2, a3, c3⟩ G p q1 q2 q3 hi (top G + 1) (tab0 G) wr by
            have := S.out
            rwa [hE, tabUp_end] at this)
          have hdc : decide ((j : Int) ≤ (G.terms.length : Int)) = false := decide_eq_false (by omega)
          have HN := Lib.hid (show top G = G.terms.length + G.nons.length from rfl)
          clear S hE
          go_wp2
          have hz : decide (j ≤ G.terms.length) = false := decide_eq_false (by omega)
          rw [hz]
          clear x0 x1 x2 x3 hdc hlt hj hj1 hz
          go_loopg [6] (leftA G 4096 (tab0 G) (top G + 1) + 1) (fun g m wr => ROut w ⟨a1, c1, a2, c2, a3, c3⟩ G p q1 q2 q3 hi (top G + 1) g m wr)
          case atStart => exact ⟨true, _, rfl, S1.out, inv_tab0 G, fun _ => Nat.le_refl _, fun h => by cases h⟩
          case round =>
            clear S1
            obtain ⟨b, T, rfl, hS, hI, hg, hcl⟩ := hrel
            have S := Lib.hid hS
            have IV := Lib.hid hI
            cases b with
            | false =>
              have E := Lib.hid (least_is hI.ok (hcl rfl))
              have OC := Lib.hid (show OkS G 4096 T ∧ Cls G 4096 T from ⟨hI.ok, hcl rfl⟩)
              obtain ⟨f, hf⟩ := hS.t
              have F := Lib.hid hf
              clear hS hI hg hcl hf
              go_wp2
              go_ret
              exact ⟨_, rfl, .inr ⟨AN.out.1, p, q1, q2, q3, hi, top G + 1, f, rfl, by rw [AN.out.2, ← E.out]; exact F.out⟩, S.out.x.below, fun _ => by rw [AN.out.2, ← E.out]; exact OC.out⟩
            | true =>
              have GG := Lib.hid (hg rfl)
              have V0 := Lib.hid (tried_zero (n := top G + 1) hI)
              clear hS hI hg hcl
              go_wp2
              go_loopw [6, 7] (fun m i wr => RIn w ⟨a1, c1, a2, c2, a3, c3⟩ G p q1 q2 q3 hi (top G + 1) T m i wr) (fun _ i _ => G.rules.length - (intOf i).toNat)
              case atStart => exact ⟨0, false, T, Nat.zero_le _, rfl, rfl, S.out, V0.out⟩
              case round =>
                clear S V0
                obtain ⟨k, b, U, hk, rfl, rfl, hS, hV⟩ := hrel
                have S := Lib.hid hS
                have V := Lib.hid hV
                clear hS hV
                obtain ⟨x0, x1, x2, x3⟩ := S.out.x.box
                try dsimp only at x0 x1 x2 x3
                by_cases hlr : k < G.rules.length
                · obtain ⟨bb, o, ra, rc, e, h1, h2, h3, h4, h5⟩ := KG.out.rules k hlr
                  try dsimp only at e
                  subst e
                  have hnn : nonB G G.rules[k].1 = true := by have := known_non SM.out.known hlr; rwa [leftOf_get hlr] at this
                  have SK := Lib.hid (V.out.skip hlr)
                  have PU := Lib.hid (fun a b => V.out.put hlr hnn a b)
                  have hr8 := SM.out.w _ (List.getElem_mem hlr)
                  have hrr := SM.out.r
                  have hr1 := KG.out.r1
                  generalize G.rules[k] = r at h1 h2 h3 h4 h5 hnn SK PU hr8
                  obtain ⟨left, R⟩ := r
                  dsimp only at h1 h2 h3 h4 h5 hnn SK PU hr8
                  rw [nonB_iff] at hnn
                  obtain ⟨s, rfl⟩ : ∃ s : Nat, left = (s : Int) := ⟨left.toNat, by omega⟩
                  have hsn : s < top G + 1 := by have := HN.out; omega
                  have PU := Lib.hid (PU.out (by omega) (by omega))
                  have H1 := Lib.hid (cell_later S.out.x.below h1)
                  have g2 := cell_later S.out.x.below h2
                  obtain ⟨f, hf⟩ := S.out.t
                  have JC := Lib.hid (rjoin_any p q1 q2 q3 hi (top G + 1) U f R ra rc wr hf (Sep.Reads.below h3 S.out.x.below (Nat.le_refl _)) (by omega))
                  have hhw := hf.hw
                  clear hf h1 h2 h3 hnn
                  have bdJ := bd_join U R
                  generalize J U R = aj at *
                  cases hh : hasA aj with
                  | false =>
                    have V1 := Lib.hid (SK.out (by cases aj <;> first | rfl | cases hh))
                    unfold RJd at JC
                    rw [hh] at JC
                    clear hh SK PU
                    have h1 := H1.out
                    go_wp2_with (go_at_call 38; refine JC.out.mono ?_; rintro e w3 ⟨ad, ac, rfl, hR, hN, hb⟩; have S3 := Lib.hid (S.out.went hb); have h1 := cell_later hb H1.out; clear x0 x1 x2 x3; obtain ⟨x0, x1, x2, x3⟩ := S3.out.x.box; (try dsimp only at x0 x1 x2 x3); clear hR hN hb)
                    go_roundw
                    case rel => exact ⟨k + 1, b, U, by omega, by go_num, rfl, S3.out, V1.out⟩
                    case measure => simp [intOf]; omega
                  | true =>
                    have ne : aj ≠ .none := fun e => by subst e; cases hh
                    have HH := Lib.hid hh
                    unfold RJd at JC
                    rw [hh] at JC
                    clear hh
                    have h1 := H1.out
                    cases hbt : betterS aj (U (s : Int)) with
                    | false =>
                      have V1 := Lib.hid (SK.out hbt)
                      have HB := Lib.hid hbt
                      clear hbt SK PU
                      go_wp2_with (first
                        | (go_at_call 38; refine JC.out.mono ?_; rintro e w3 ⟨ad, ac, rfl, hR, hN, hb⟩; have S3 := Lib.hid (S.out.went hb); have h1 := cell_later hb H1.out; clear x0 x1 x2 x3; obtain ⟨x0, x1, x2, x3⟩ := S3.out.x.box; (try dsimp only at x0 x1 x2 x3); obtain ⟨f3, hf3⟩ := S3.out.t; have BC := Lib.hid (rbetter_any p q1 q2 q3 hi (top G + 1) U f3 s aj ad ac w3 hf3 hsn ne bdJ hR); rw [HB.out] at BC; clear hR hN hb hf3)
                        | (go_at_call 39; refine BC.out.mono ?_; rintro e w4 ⟨rfl, hb⟩; have S4 := Lib.hid (S3.out.went hb); clear hb))
                      go_roundw
                      case rel => exact ⟨k + 1, b, U, by omega, by go_num, rfl, S4.out, V1.out⟩
                      case measure => simp [intOf]; omega
                    | true =>
                      have V1 := Lib.hid (PU.out hbt)
                      have HB := Lib.hid hbt
                      clear hbt SK PU
                      go_wp2_with (first
                        | (go_at_call 38; refine JC.out.mono ?_; rintro e w3 ⟨ad, ac, rfl, hR, hN, hb⟩; have S3 := Lib.hid (S.out.went hb); have h1 := cell_later hb H1.out; clear x0 x1 x2 x3; obtain ⟨x0, x1, x2, x3⟩ := S3.out.x.box; (try dsimp only at x0 x1 x2 x3); obtain ⟨f3, hf3⟩ := S3.out.t; have BC := Lib.hid (rbetter_any p q1 q2 q3 hi (top G + 1) U f3 s aj ad ac w3 hf3 hsn ne bdJ hR); rw [HB.out] at BC; have RD := Lib.hid hR; have ND := Lib.hid (show ∀ b o, ad = some ⟨b, o, none⟩ → hi ≤ b from fun b o e => Nat.le_trans hhw (hN _ e)); clear hR hN hb hf3)
                        | (go_at_call 39; refine BC.out.mono ?_; rintro e w4 ⟨rfl, hb⟩; have S4 := Lib.hid (S3.out.went hb); have R4 := Lib.hid (RD.out.below hb (Nat.le_refl _)); clear hb))
                      obtain ⟨f4, hf4⟩ := S4.out.t
                      have P123 := Lib.hid (S4.out.put hsn bdJ (show WHi hi (wordA aj) (.slice ad (wordA aj).length ac) w4 from ⟨ad, ac, rfl, R4.out, fun b o e _ => ND.out b o e⟩))
                      rw [HH.out] at P123
                      have e12 := hf4.d12
                      have e13 := hf4.d13
                      have e23 := hf4.d23
                      have e21 := Ne.symm e12
                      have e31 := Ne.symm e13
                      have e32 := Ne.symm e23
                      have P213 := P123.out
                      rw [set_comm w4 q1 q2 s s _ _ e12] at P213
                      have P132 := P123.out
                      rw [set_comm (w4.setCell ⟨q1, s, none⟩ _) q2 q3 s s _ _ e23] at P132
                      have P312 := P132
                      rw [set_comm w4 q1 q3 s s _ _ e13] at P312
                      have P231 := P213
                      rw [set_comm (w4.setCell ⟨q2, s, none⟩ _) q1 q3 s s _ _ e13] at P231
                      have P321 := P312
                      rw [set_comm (w4.setCell ⟨q3, s, none⟩ _) q1 q2 s s _ _ e12] at P321
                      have Q213 := Lib.hid P213
                      have Q132 := Lib.hid P132
                      have Q312 := Lib.hid P312
                      have Q231 := Lib.hid P231
                      have Q321 := Lib.hid P321
                      clear P213 P132 P312 P231 P321
                      obtain ⟨y0, y1, y2, yf⟩ := hf4.box.three
                      have z1 := hf4.c1.at_ s hsn
                      have z2 := hf4.c2.at_ s hsn
                      have z3 := hf4.c3.at_ s hsn
                      have zf1 := hf4.c1.free
                      have zf2 := hf4.c2.free
                      have zf3 := hf4.c3.free
                      have k1 : q1 < w4.heap.size := hf4.c1.lt
                      have k2 : q2 < w4.heap.size := hf4.c2.lt
                      have k3 : q3 < w4.heap.size := hf4.c3.lt
                      have k0 : p < w4.heap.size := hf4.box.lt
                      have n1 := hf4.p1
                      have n2 := hf4.p2
                      have n3 := hf4.p3
                      have i0 : (0 : Int) ≤ (s : Int) := by omega
                      have i1 : (s : Int) < (top G : Int) + 1 := by omega
                      have HQ := Lib.hid (show ∀ w', Sep.Fr (fun k => k = q1 ∨ k = q2 ∨ k = q3) w4 w' → w'.cell? ⟨p, 0, none⟩ = some (.slice (some ⟨q1, 0, none⟩) (top G + 1) (top G + 1)) ∧ w'.cell? ⟨p, 1, none⟩ = some (.slice (some ⟨q2, 0, none⟩) (top G + 1) (top G + 1)) ∧ w'.cell? ⟨p, 2, none⟩ = some (.slice (some ⟨q3, 0, none⟩) (top G + 1) (top G + 1)) from
                        fun w' hF => ⟨hF.cell y0 (by simp; omega), hF.cell y1 (by simp; omega), hF.cell y2 (by simp; omega)⟩)
                      clear hf4
                      go_region_held3 (fun w' => w'.cell? ⟨p, 0, none⟩ = some (.slice (some ⟨q1, 0, none⟩) (top G + 1) (top G + 1)) ∧ w'.cell? ⟨p, 1, none⟩ = some (.slice (some ⟨q2, 0, none⟩) (top G + 1) (top G + 1)) ∧ w'.cell? ⟨p, 2, none⟩ = some (.slice (some ⟨q3, 0, none⟩) (top G + 1) (top G + 1)))
                        ((refine HQ.out _ ?_; repeat (first | exact Sep.Fr.refl _ _ | refine Sep.Fr.drew ?_ | refine Sep.Fr.alloc ?_ _ | refine Sep.Fr.setCell ?_ _ (Or.inl rfl) _ | refine Sep.Fr.setCell ?_ _ (Or.inr (Or.inl rfl)) _ | refine Sep.Fr.setCell ?_ _ (Or.inr (Or.inr rfl)) _))) (fail)
                      all_goals
                        go_wp2
                        go_roundw
                        case rel => exact ⟨k + 1, true, _, by omega, by go_num, rfl, by first | exact P123.out.went (drawn _) | exact Q213.out.went (drawn _) | exact Q132.out.went (drawn _) | exact Q312.out.went (drawn _) | exact Q231.out.went (drawn _) | exact Q321.out.went (drawn _), V1.out⟩
                        case measure => simp [intOf]; omega
                · have E := Lib.hid (V.out.all hlr)
                  have hg := GG.out
                  go_wp2
                  go_roundg (leftA G 4096 T (top G + 1))
                  case measure => omega
                  case rel => exact ⟨b, U, rfl, S.out, E.out.inv, fun h => E.out.yes h, E.out.no⟩
  · have AN := Lib.hid (show nilB G = true ∧ ansT G = fun _ => Ans.none from ⟨by unfold nilB; rw [decide_eq_false hc]; rfl, by unfold ansT; rw [if_neg hc]⟩)
    have hb : (checkN G != 0) = true := by simpa using hc
    clear k hc
    generalize checkN G = ck at *
    unfold gv
    dsimp only
    go_enter Tryd.func15, Tryd.ntmps15
    go_wp2_with (go_at_call 6; refine (C.out _ X.out.below).mono ?_; rintro e w1 ⟨rfl, hb⟩; have X1 := Lib.hid (X.out.went hb); clear hb)
    go_ret
    exact ⟨_, rfl, .inl ⟨AN.out.1, rfl, AN.out.2⟩, X1.out.below, fun h => by rw [AN.out.1] at h; cases h⟩

theorem rof_any (h : Sh) (G : Gram) (w : World) (k : GAt h G w) :
    Calls Tryd.prog 15 #[gv h G] w (fun e w' => ∃ v, e = .returned v ∧ RVAt (nilB G) v (ansT G) w' ∧ Below w.heap.size w w') :=
  (rof_any2 h G w k).mono fun _ _ ⟨v, h1, h2, h3, _⟩ => ⟨v, h1, h2, h3⟩

end Go.Proofs.YtoipinnfmjaaaaaDoor.Le
