/-
  The walk of the statement on any calls on two sets of any rooms.
-/
import Derived.Test.YtmocndhcahongaaDoorBitsFour
import Derived.Deep.RegionHeld3
import Derived.Deep.CutBlock
namespace Go.Proofs.YtmocndhcahongaaDoor.Bt
open Go.RowKit

/-- Two answers that are one, and the four behind them. -/
def Both (w : World) (p1 d1 p2 d2 q1 e1 q2 e2 a b : Nat) (x y : Value) (wx : World) : Prop :=
  ∃ r B C, x = .bool r ∧ y = .bool r ∧ Four w p1 d1 p2 d2 q1 e1 q2 e2 a b B C B C wx

set_option maxHeartbeats 4000000 in
set_option maxRecDepth 100000 in
theorem does_any (n m : Int) (ao : Option Addr) (len cp : Nat) (ks ns : Nat → Int) (w : World) (hT : Tab w) (hg : Calls2 ao len ks ns w) :
    Calls Tryd.prog 3 #[.int .i64 n, .int .i64 m, .slice ao len cp] w (Yes w) := by
  have HT := Lib.hid hT
  have HG := Lib.hid hg
  have HN := Lib.hid (fun w' => new_any n w')
  have HM := Lib.hid (fun w' => new_any m w')
  have HRN := Lib.hid (fun w' => rnew_any n w')
  have HRM := Lib.hid (fun w' => rnew_any m w')
  clear hT hg
  generalize cap n = a at *
  generalize cap m = b at *
  go_enter Tryd.func3, Tryd.ntmps3
  go_wp2_with fail
  refine (HN.out _).mono ?_
  rintro e w1 ⟨p1, d1, rfl, x1, x2, x3, x4, x5⟩
  have H1 := Lib.hid (And.intro x1 (And.intro x2 (And.intro x3 x4)))
  clear x1 x2 x3 x4 x5
  go_wp2_with fail
  refine (HM.out _).mono ?_
  rintro e w2 ⟨p2, d2, rfl, x1, x2, x3, x4, x5⟩
  have H2 := Lib.hid (And.intro x1 (And.intro x2 (And.intro x3 x4)))
  clear x1 x2 x3 x4 x5
  go_wp2_with fail
  refine (HRN.out _).mono ?_
  rintro e w3 ⟨q1, e1, rfl, x1, x2, x3, x4⟩
  have H3 := Lib.hid (And.intro x1 (And.intro x2 (And.intro x3 x4)))
  clear x1 x2 x3 x4
  go_wp2_with fail
  refine (HRM.out _).mono ?_
  rintro e w4 ⟨q2, e2, rfl, x1, x2, x3, x4⟩
  have HF : Hid (Four w p1 d1 p2 d2 q1 e1 q2 e2 a b no no no no w4) := by
    obtain ⟨y1, y2, y3, y4⟩ := H1.out
    obtain ⟨z1, z2, z3, z4⟩ := H2.out
    obtain ⟨u1, u2, u3, u4⟩ := H3.out
    have t1 := y3.inp
    have t2 := y3.ind
    have t3 := z3.inp
    have t4 := z3.ind
    have t5 := u3.inp
    have t6 := u3.ind
    have s1 := y4.size
    have s2 := z4.size
    have s3 := u4.size
    have hpos := HT.out.pos
    have hb2 := y4.trans (z4.mono s1)
    have hb3 := hb2.trans (u4.mono hb2.size)
    have hb4 := hb3.trans (x4.mono hb3.size)
    exact ⟨⟨hpos, ⟨y1, y2⟩, ⟨by omega, by omega, by omega, by omega⟩, ⟨by omega, by omega, by omega, by omega⟩, ⟨by omega, by omega, by omega, by omega⟩⟩,
      ((y3.below z4 (by omega) (by omega)).below u4 (by omega) (by omega)).below x4 (by omega) (by omega),
      (z3.below u4 (by omega) (by omega)).below x4 (by omega) (by omega), u3.below x4 (by omega) (by omega), x3, hb4, HT.out.below hb4 hpos⟩
  clear x1 x2 x3 x4 H1 H2 H3 HN HM HRN HRM
  go_wp2
  go_loopw [11] (fun s wr => ∃ k : Nat, k ≤ few len ∧ s = .int .i64 k ∧ ∃ B C, Four w p1 d1 p2 d2 q1 e1 q2 e2 a b B C B C wr) (fun s _ => 60 - (intOf s).toNat)
  case atStart => exact ⟨0, Nat.zero_le _, rfl, no, no, HF.out⟩
  case round =>
    obtain ⟨k, hk, rfl, B, C, hf⟩ := hrel
    have HF2 := Lib.hid hf
    clear hf HF
    by_cases hlt : k < len
    · by_cases h60 : k < 60
      · skip
        obtain ⟨bb, off, rfl, hc0, hc1, hn⟩ := HG.out k hlt
        have HQ := Lib.hid (show ∀ w', Below w.heap.size w w' → w'.cell? ⟨bb, off + k * 2 + 1, none⟩ = some (.int .i64 (ns k)) ∧ Below w.heap.size w w' from
          fun w' h => ⟨(h.cell (p := ⟨bb, off + k * 2 + 1, none⟩) (lt_of_cell' hc1)).trans hc1, h⟩)
        have g0 : wr.cell? ⟨bb, off + k * 2, none⟩ = some (.int .i64 (ks k)) := (HF2.out.below.cell (p := ⟨bb, off + k * 2, none⟩) (lt_of_cell' hc0)).trans hc0
        clear hc0 hc1 HG
        generalize ks k = K at *
        generalize ns k = N at *
        have hkc : (k : Int) < (len : Int) := by omega
        have hk0 : (0 : Int) ≤ (k : Int) := by omega
        go_upto_block 2 with (fail)
        go_cut [12, 13] (fun x y wx => Both w p1 d1 p2 d2 q1 e1 q2 e2 a b x y wx)
        case first =>
          by_cases k0 : K = 0
          · subst k0
            go_wp2_with fail
            have HF3 : Hid (Four w p1 d1 p2 d2 q1 e1 q2 e2 a b B C B C wr.drew) := HF2.out.drewN 1
            have hbd : Below w.heap.size w wr.drew := HF3.out.below
            go_region_held3 (fun w' => w'.cell? ⟨bb, off + k * 2 + 1, none⟩ = some (.int .i64 N) ∧ Below w.heap.size w w')
              (exact HQ.out _ (by assumption))
              (first
                | (go_at_call 8; refine (put_any _ HF3.out.s N hn).mono ?_; rintro e wn ⟨rfl, hs, hkp⟩; have HF4 := Lib.hid (HF3.out.putS hs hkp); have kB : Below w.heap.size w wn := HF4.out.below; clear hs hkp)
                | (go_at_call 9; refine (rput_any _ HF4.out.x N).mono ?_; rintro e wm ⟨rfl, hs, hkp⟩; have HF5 := Lib.hid (HF4.out.putX hs hkp); have kC : Below w.heap.size w wm := HF5.out.below; clear hs hkp)
                | fail)
            go_wp2
            go_meet
            case rel => exact ⟨_, _, _, rfl, rfl, HF5.out⟩
          · by_cases k1 : K = 1
            · subst k1
              clear k0
              go_wp2_with fail
              have HF3 : Hid (Four w p1 d1 p2 d2 q1 e1 q2 e2 a b B C B C wr.drew) := HF2.out.drewN 1
              have hbd : Below w.heap.size w wr.drew := HF3.out.below
              go_region_held3 (fun w' => w'.cell? ⟨bb, off + k * 2 + 1, none⟩ = some (.int .i64 N) ∧ Below w.heap.size w w')
                (exact HQ.out _ (by assumption))
                (first
                  | (go_at_call 10; refine (drop_any _ HF3.out.s N hn).mono ?_; rintro e wn ⟨rfl, hs, hkp⟩; have HF4 := Lib.hid (HF3.out.putS hs hkp); have kB : Below w.heap.size w wn := HF4.out.below; clear hs hkp)
                  | (go_at_call 11; refine (rdrop_any _ HF4.out.x N).mono ?_; rintro e wm ⟨rfl, hs, hkp⟩; have HF5 := Lib.hid (HF4.out.putX hs hkp); have kC : Below w.heap.size w wm := HF5.out.below; clear hs hkp)
                  | fail)
              go_wp2
              go_meet
              case rel => exact ⟨_, _, _, rfl, rfl, HF5.out⟩
            · by_cases k2 : K = 2
              · subst k2
                clear k0 k1
                have HO := Lib.hid (or_any wr HF2.out.s HF2.out.otherT)
                go_wp2_with fail
                refine HO.out.mono ?_
                rintro e wn ⟨rfl, hs, hkp⟩
                have HF4 := Lib.hid (HF2.out.putS hs hkp)
                have HO2 := Lib.hid (ror_any wn HF4.out.x HF4.out.y (by have := HF4.out.lie.a3; omega) (by have := HF4.out.lie.a3; omega))
                clear hs hkp HO
                go_wp2_with fail
                refine HO2.out.mono ?_
                rintro e wm ⟨rfl, hs, hkp⟩
                have HF5 := Lib.hid (HF4.out.putX hs hkp)
                clear hs hkp HO2
                go_wp2
                go_meet
                case rel => exact ⟨_, _, _, rfl, rfl, HF5.out⟩
              · by_cases k3 : K = 3
                · subst k3
                  clear k0 k1 k2
                  go_wp2_with fail
                  have HF3 : Hid (Four w p1 d1 p2 d2 q1 e1 q2 e2 a b B C B C wr.drew) := HF2.out.drewN 1
                  have hbd : Below w.heap.size w wr.drew := HF3.out.below
                  go_region_held3 (fun w' => w'.cell? ⟨bb, off + k * 2 + 1, none⟩ = some (.int .i64 N) ∧ Below w.heap.size w w')
                    (exact HQ.out _ (by assumption))
                    (first
                      | (go_at_call 8; refine (put_any _ HF3.out.t N hn).mono ?_; rintro e wn ⟨rfl, hs, hkp⟩; have HF4 := Lib.hid (HF3.out.putT hs hkp); have kB : Below w.heap.size w wn := HF4.out.below; clear hs hkp)
                      | (go_at_call 9; refine (rput_any _ HF4.out.y N).mono ?_; rintro e wm ⟨rfl, hs, hkp⟩; have HF5 := Lib.hid (HF4.out.putY hs hkp); have kC : Below w.heap.size w wm := HF5.out.below; clear hs hkp)
                      | fail)
                  go_wp2
                  go_meet
                  case rel => exact ⟨_, _, _, rfl, rfl, HF5.out⟩
                · go_wp2
                  go_meet
                  case rel => exact ⟨_, _, _, rfl, rfl, HF2.out⟩
        case rest =>
          obtain ⟨r, B2, CC2, rfl, rfl, hf⟩ := hcut
          have HX := Lib.hid hf
          clear hf HF2 g0
          have g1 := (HQ.out wc HX.out.below).1
          have C1 := Lib.hid (fun q => has_any (wc.drewN q) (.at_ (HX.out.drewN q).s) N hn)
          have C2 := Lib.hid (fun q => flip (rhas_any (wc.drewN q) (HX.out.drewN q).x N))
          have C3 := Lib.hid (fun q => flip (next_any (wc.drewN q) (.at_ (HX.out.drewN q).s) (HX.out.drewN q).tab N hn))
          have C4 := Lib.hid (fun q => flip (rnext_any (wc.drewN q) (HX.out.drewN q).x N hn))
          have C5 := Lib.hid (fun q => flip (meet_any (wc.drewN q) (.at_ (HX.out.drewN q).s) (.at_ (HX.out.drewN q).t)))
          have C6 := Lib.hid (fun q => flip (rmeet_any (wc.drewN q) (HX.out.drewN q).x (HX.out.drewN q).y))
          clear HQ
          go_wp2_with fail
          go_quiet (first
            | (go_at_call 14; exact Calls.quiet_of (C1.out _))
            | (go_at_call 15; exact Calls.quiet_of_same (C2.out _))
            | (go_at_call 16; exact Calls.quiet_of_same (C3.out _))
            | (go_at_call 17; exact Calls.quiet_of_same (C4.out _))
            | (go_at_call 18; exact Calls.quiet_of_same (C5.out _))
            | (go_at_call 19; exact Calls.quiet_of_same (C6.out _)))
          have HY := Lib.hid (HX.out.drewN nq)
          clear C1 C2 C3 C4 C5 C6 HX
          go_wp2
          go_roundw
          case rel => exact ⟨k + 1, by unfold few; omega, by go_num, B2, CC2, HY.out⟩
          case measure => simp [intOf]; omega
      · skip
        have F0 := HF2
        have A1 := Lib.hid (room_any wr (.at_ F0.out.s))
        have A2 := Lib.hid (rroom_any wr F0.out.x)
        clear HF2
        go_wp2_with fail
        refine A1.out.mono ?_
        rintro e w' ⟨rfl, rfl⟩
        go_wp2_with fail
        refine A2.out.mono ?_
        rintro e w' ⟨rfl, rfl⟩
        clear A1 A2
        have HL := Lib.hid (list_any wr (.at_ F0.out.s) F0.out.tab)
        go_wp2_with fail
        refine HL.out.mono ?_
        rintro e l0a ⟨v0, rfl, hown, hb⟩
        have R0 := Lib.hid (rowV_of_own hown)
        have F0a := Lib.hid (F0.out.went hb)
        clear hown hb HL
        have HL := Lib.hid (rlist_any l0a F0a.out.x)
        go_wp2_with fail
        refine HL.out.mono ?_
        rintro e l0b ⟨u0, rfl, hown, hb⟩
        have Q0 := Lib.hid (rowV_of_own hown)
        have S0 := Lib.hid (R0.out.below hb)
        have F0b := Lib.hid (F0a.out.went hb)
        clear hown hb HL R0 F0a
        have HI := Lib.hid (ints_any l0b S0.out Q0.out (els_len B))
        rw [beq_self_eq_true] at HI
        go_wp2_with fail
        refine HI.out.mono ?_
        rintro e w' ⟨rfl, z0, rfl⟩
        have F1 := Lib.hid (F0b.out.drewN z0)
        clear HI F0b Q0 S0
        generalize l0b.drewN z0 = f1 at *
        have HL := Lib.hid (list_any f1 (.at_ F1.out.t) F1.out.tab)
        go_wp2_with fail
        refine HL.out.mono ?_
        rintro e l1a ⟨v1, rfl, hown, hb⟩
        have R1 := Lib.hid (rowV_of_own hown)
        have F1a := Lib.hid (F1.out.went hb)
        clear hown hb HL
        have HL := Lib.hid (rlist_any l1a F1a.out.y)
        go_wp2_with fail
        refine HL.out.mono ?_
        rintro e l1b ⟨u1, rfl, hown, hb⟩
        have Q1 := Lib.hid (rowV_of_own hown)
        have S1 := Lib.hid (R1.out.below hb)
        have F1b := Lib.hid (F1a.out.went hb)
        clear hown hb HL R1 F1a
        have HI := Lib.hid (ints_any l1b S1.out Q1.out (els_len C))
        rw [beq_self_eq_true] at HI
        go_wp2_with fail
        refine HI.out.mono ?_
        rintro e w' ⟨rfl, z1, rfl⟩
        have F2 := Lib.hid (F1b.out.drewN z1)
        clear HI F1b Q1 S1
        generalize l1b.drewN z1 = f2 at *
        have A1 := Lib.hid (count_any f2 (.at_ F2.out.s))
        go_wp2_with fail
        refine A1.out.mono ?_
        rintro e w' ⟨rfl, rfl⟩
        have HL := Lib.hid (rlist_any f2 F2.out.x)
        go_wp2_with fail
        refine HL.out.mono ?_
        rintro e f3 ⟨v3, rfl, hown, hb⟩
        obtain ⟨vo, vc, rfl, _⟩ := rowV_of_own hown
        have F3 := Lib.hid (F2.out.went hb)
        clear hown hb HL A1 F2
        have A1 := Lib.hid (same_any f3 (.at_ F3.out.s) (.at_ F3.out.t))
        go_wp2_with fail
        refine A1.out.mono ?_
        rintro e w' ⟨rfl, rfl⟩
        have HL := Lib.hid (rlist_any f3 F3.out.x)
        go_wp2_with fail
        refine HL.out.mono ?_
        rintro e f4 ⟨v4, rfl, hown, hb⟩
        have R4 := Lib.hid (rowV_of_own hown)
        have F4 := Lib.hid (F3.out.went hb)
        clear hown hb HL A1 F3
        have HL := Lib.hid (rlist_any f4 F4.out.y)
        go_wp2_with fail
        refine HL.out.mono ?_
        rintro e f5 ⟨v5, rfl, hown, hb⟩
        have R5 := Lib.hid (rowV_of_own hown)
        have S4 := Lib.hid (R4.out.below hb)
        have F5 := Lib.hid (F4.out.went hb)
        clear hown hb HL R4 F4
        have HI : Hid (Calls Tryd.prog 22 #[v4, v5] f5 (Draws (.bool (same B C)) f5)) := ints_any f5 S4.out R5.out (els_len C)
        go_wp2_with fail
        refine HI.out.mono ?_
        rintro e w' ⟨rfl, z5, rfl⟩
        have F6 := Lib.hid (F5.out.drewN z5)
        clear HI F5 R5 S4
        generalize f5.drewN z5 = f6 at *
        have HA := Lib.hid (awake_any f6 F6.out.tab)
        go_wp2_with fail
        refine HA.out.mono ?_
        rintro e f7 ⟨rfl, hb⟩
        have HB := Lib.hid (F6.out.below.trans (hb.mono F6.out.below.size))
        clear hb
        go_wp2
        go_ret
        exact ⟨rfl, HB.out⟩
    · skip
      have F0 := HF2
      have A1 := Lib.hid (room_any wr (.at_ F0.out.s))
      have A2 := Lib.hid (rroom_any wr F0.out.x)
      clear HF2
      go_wp2_with fail
      refine A1.out.mono ?_
      rintro e w' ⟨rfl, rfl⟩
      go_wp2_with fail
      refine A2.out.mono ?_
      rintro e w' ⟨rfl, rfl⟩
      clear A1 A2
      have HL := Lib.hid (list_any wr (.at_ F0.out.s) F0.out.tab)
      go_wp2_with fail
      refine HL.out.mono ?_
      rintro e l0a ⟨v0, rfl, hown, hb⟩
      have R0 := Lib.hid (rowV_of_own hown)
      have F0a := Lib.hid (F0.out.went hb)
      clear hown hb HL
      have HL := Lib.hid (rlist_any l0a F0a.out.x)
      go_wp2_with fail
      refine HL.out.mono ?_
      rintro e l0b ⟨u0, rfl, hown, hb⟩
      have Q0 := Lib.hid (rowV_of_own hown)
      have S0 := Lib.hid (R0.out.below hb)
      have F0b := Lib.hid (F0a.out.went hb)
      clear hown hb HL R0 F0a
      have HI := Lib.hid (ints_any l0b S0.out Q0.out (els_len B))
      rw [beq_self_eq_true] at HI
      go_wp2_with fail
      refine HI.out.mono ?_
      rintro e w' ⟨rfl, z0, rfl⟩
      have F1 := Lib.hid (F0b.out.drewN z0)
      clear HI F0b Q0 S0
      generalize l0b.drewN z0 = f1 at *
      have HL := Lib.hid (list_any f1 (.at_ F1.out.t) F1.out.tab)
      go_wp2_with fail
      refine HL.out.mono ?_
      rintro e l1a ⟨v1, rfl, hown, hb⟩
      have R1 := Lib.hid (rowV_of_own hown)
      have F1a := Lib.hid (F1.out.went hb)
      clear hown hb HL
      have HL := Lib.hid (rlist_any l1a F1a.out.y)
      go_wp2_with fail
      refine HL.out.mono ?_
      rintro e l1b ⟨u1, rfl, hown, hb⟩
      have Q1 := Lib.hid (rowV_of_own hown)
      have S1 := Lib.hid (R1.out.below hb)
      have F1b := Lib.hid (F1a.out.went hb)
      clear hown hb HL R1 F1a
      have HI := Lib.hid (ints_any l1b S1.out Q1.out (els_len C))
      rw [beq_self_eq_true] at HI
      go_wp2_with fail
      refine HI.out.mono ?_
      rintro e w' ⟨rfl, z1, rfl⟩
      have F2 := Lib.hid (F1b.out.drewN z1)
      clear HI F1b Q1 S1
      generalize l1b.drewN z1 = f2 at *
      have A1 := Lib.hid (count_any f2 (.at_ F2.out.s))
      go_wp2_with fail
      refine A1.out.mono ?_
      rintro e w' ⟨rfl, rfl⟩
      have HL := Lib.hid (rlist_any f2 F2.out.x)
      go_wp2_with fail
      refine HL.out.mono ?_
      rintro e f3 ⟨v3, rfl, hown, hb⟩
      obtain ⟨vo, vc, rfl, _⟩ := rowV_of_own hown
      have F3 := Lib.hid (F2.out.went hb)
      clear hown hb HL A1 F2
      have A1 := Lib.hid (same_any f3 (.at_ F3.out.s) (.at_ F3.out.t))
      go_wp2_with fail
      refine A1.out.mono ?_
      rintro e w' ⟨rfl, rfl⟩
      have HL := Lib.hid (rlist_any f3 F3.out.x)
      go_wp2_with fail
      refine HL.out.mono ?_
      rintro e f4 ⟨v4, rfl, hown, hb⟩
      have R4 := Lib.hid (rowV_of_own hown)
      have F4 := Lib.hid (F3.out.went hb)
      clear hown hb HL A1 F3
      have HL := Lib.hid (rlist_any f4 F4.out.y)
      go_wp2_with fail
      refine HL.out.mono ?_
      rintro e f5 ⟨v5, rfl, hown, hb⟩
      have R5 := Lib.hid (rowV_of_own hown)
      have S4 := Lib.hid (R4.out.below hb)
      have F5 := Lib.hid (F4.out.went hb)
      clear hown hb HL R4 F4
      have HI : Hid (Calls Tryd.prog 22 #[v4, v5] f5 (Draws (.bool (same B C)) f5)) := ints_any f5 S4.out R5.out (els_len C)
      go_wp2_with fail
      refine HI.out.mono ?_
      rintro e w' ⟨rfl, z5, rfl⟩
      have F6 := Lib.hid (F5.out.drewN z5)
      clear HI F5 R5 S4
      generalize f5.drewN z5 = f6 at *
      have HA := Lib.hid (awake_any f6 F6.out.tab)
      go_wp2_with fail
      refine HA.out.mono ?_
      rintro e f7 ⟨rfl, hb⟩
      have HB := Lib.hid (F6.out.below.trans (hb.mono F6.out.below.size))
      clear hb
      go_wp2
      go_ret
      exact ⟨rfl, HB.out⟩

end Go.Proofs.YtmocndhcahongaaDoor.Bt
