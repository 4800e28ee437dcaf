/- A part of the proof. -/
import Derived.Test.YtbajcecncgdpmaaGreatDoorPk47
import Derived.Test.YtbajcecncgdpmaaGreatDoorPk41
set_option maxHeartbeats 8000000
set_option maxRecDepth 100000
set_option linter.unusedVariables false
namespace Go.Proofs.YtbajcecncgdpmaaGreatDoor
namespace Lk
open Go.RowKit Go.Maps
open Gr (Gram Sh gv GAt Bx boxed drawn checkN zAA cell_later zDg zAB zAN)
open Im
open Au
open Fi (lst folB canB fstB nlB)
theorem zHF (h : Sh) (G : Gram) (w : World) (k : GAt h G w) (htab : Bt.Tab w) :
  Calls Tryz.prog 4 #[gv h G] w (Gr.Is (.bool true) w) := by
 have X0 := zSt (Bx.start h G w 25)
 have MU := zSt (fun w1 (b : Below w.heap.size w w1) => zDg h G w1 (k.went b))
 have LU := zSt (fun w1 (b : Below w.heap.size w w1) => zD8 h G w1 (k.went b) (htab.below b htab.pos))
 have RO := zSt (fun w1 (b : Below w.heap.size w w1) => Fr.zEF h G w1 (k.went b))
 have RU := zSt (fun x w1 (b : Below w.heap.size w w1) => Gr.zC2 h G x w1 (k.went b))
 have FO := zSt (fun (v : Value) (hv : checkN G = 0) w1 (b : Below w.heap.size w w1) (q : Fr.WS false v h G (canB G) (fstB G) (folB G) w1) x => Fr.zHe w w1 k b q (fun _ => zQo hv) x)
 have AW := zSt (fun w1 (b : Below w.heap.size w w1) => zF5 w1 (htab.below b htab.pos))
 clear k htab
 obtain ⟨x0, x1, x2, x3⟩ := X0.out.box
 unfold gv at *
 go_enter Tryz.func4, Tryz.ntmps4
 go_wp2_with fail
 refine (MU.out _ X0.out.below).mono ?_
 rintro e w1 ⟨n, rfl, hn, hb⟩
 have X1 := zSt (X0.out.went hb)
 clear hb MU hn x0 x1 x2 x3 X0
 obtain ⟨x0, x1, x2, x3⟩ := X1.out.box
 by_cases hn9 : 60 < n
 ·go_wp2_with (go_at_call 7; refine (AW.out _ X1.out.below).mono ?_; rintro e w2 ⟨rfl, hb⟩; have HB := zSt (Gr.step X1.out.below hb); clear hb)
  go_ret
  exact ⟨rfl, HB.out⟩
 go_wp2_with fail
 refine (LU.out _ X1.out.below).mono ?_
 rintro e w2 ⟨er, Ys, a, c, rfl, hI, hR, hb⟩
 obtain ⟨hee, hYl, hFl⟩ := zFR hI
 have EE := zSt hee
 have FL := zSt hFl
 have X2 := zSt (X1.out.went hb)
 have R2 := zSt hR
 clear hb hR x0 x1 x2 x3 X1 LU hI hee hFl
 obtain ⟨x0, x1, x2, x3⟩ := X2.out.box
 go_wp2_with fail
 refine (RO.out _ X2.out.below).mono ?_
 rintro e w3 ⟨v, rfl, hws, hb⟩
 have WS := zSt hws
 have X3 := zSt (X2.out.went hb)
 have R3 := zSt (R2.out.went hb)
 clear hws hb x0 x1 x2 x3 X2 R2 RO
 go_wp2_with fail
 go_loopw [6] (fun t wr => ∃ i : Nat, t = .int .i64 i /\ i <= Ys.length /\ Below w3.heap.size w3 wr) (fun t _ => Ys.length - (intOf t).toNat)
 case atStart => exact ⟨0, rfl, Nat.zero_le _, .refl _ _⟩
 case round =>
  obtain ⟨i, rfl, hil, hB⟩ := hrel
  have B3 := zSt hB
  clear hB
  by_cases hi : i < Ys.length
  ·obtain ⟨hli, hFi⟩ := FL.out i hi
   have FI := zSt hFi
   obtain ⟨bl, a2, c2, rfl, p0, p1⟩ := (R3.out.went B3.out) i hi
   have P0 := zSt p0
   have P1 := zSt p1
   have hi3 : (i : Int) < (Ys.length : Int) := by omega
   generalize Ys[i] = Y at *
   clear p0 p1 hFi
   go_wp2_with fail
   go_loopw [7] (fun t wz => ∃ k : Nat, t = .int .i64 k /\ k <= Y.length /\ Below wr.heap.size wr wz) (fun t _ => Y.length - (intOf t).toNat)
   case atStart => exact ⟨0, rfl, Nat.zero_le _, .refl _ _⟩
   case round =>
    rename_i wo
    obtain ⟨k, rfl, hkl, hB⟩ := hrel
    have B4 := zSt (Gr.step B3.out hB)
    have p0 := cell_later hB P0.out
    by_cases hlt : k < Y.length
    ·obtain ⟨b8, a8, c8, rfl, r0, r1, r2⟩ := (P1.out.went hB) k hlt
     have FK := zSt (FI.out _ (List.getElem_mem hlt))
     generalize Y[k] = y at *
     obtain ⟨yr, yl⟩ := y
     dsimp only at r0 r1 r2
     have hv := FK.out.ok
     have hle := FK.out.le
     have hfew := FK.out.few
     dsimp only at hle hfew
     have hnl : nlB G = false := by unfold nlB; simp [hv]
     have W4 := zSt (WS.out.went B4.out)
     rw [hnl, show Fi.ansC G = canB G from if_pos hv, show Fi.ansF G = fstB G from if_pos hv, show Fi.ansB G = folB G from if_pos hv] at W4
     have hvp : ∃ p, v = .pointer (some ⟨p, 0, none⟩) := by
      rcases W4.out with ⟨h1, _⟩ | ⟨_, _, p, _, _, _, _, e, _⟩
      ·cases h1
      ·exact ⟨p, e⟩
     obtain ⟨pv, rfl⟩ := hvp
     have X4 := zSt (X3.out.went B4.out)
     have hrb : zAN G (yr : Int) = true := by unfold zAN; exact decide_eq_true ⟨by omega, by omega⟩
     have RUx := zSt (fun w1 b => RU.out (yr : Int) w1 b)
     rw [hrb] at RUx
     have bx : Below wr.heap.size wr (wr.alloc (.cells #[.int .i64 (yr : Int), .slice a8 yl.length c8] 39)) := boxed _ _
     have z0 : (wr.alloc (.cells #[.int .i64 (yr : Int), .slice a8 yl.length c8] 39)).cell? ⟨wr.heap.size, 0, none⟩ = some (.int .i64 (yr : Int)) := zAA rfl rfl
     have z1 : (wr.alloc (.cells #[.int .i64 (yr : Int), .slice a8 yl.length c8] 39)).cell? ⟨wr.heap.size, 1, none⟩ = some (.slice a8 yl.length c8) := zAA rfl rfl
     have X5 := zSt (X4.out.went bx)
     have W5 := zSt (W4.out.went bx)
     have RR := zSt (r2.below bx (Nat.le_refl _))
     have BB := zSt (Gr.step hB bx)
     obtain ⟨x0, x1, x2, x3⟩ := X5.out.box
     clear bx r2 W4 X4 hB
     go_wp2_with fail
     generalize wr.alloc (.cells #[.int .i64 (yr : Int), .slice a8 yl.length c8] 39) = wx at *
     generalize wr.heap.size = bX at *
     obtain ⟨wxs, hwxs⟩ : ∃ wxs, wxs = wx := ⟨_, rfl⟩
     go_wp2_with fail
     refine (RUx.out _ X5.out.below).mono ?_
     rintro e w5 ⟨ra, rc, rfl, _, hb5⟩
     have hy : Below w5.heap.size w5 (w5.alloc (.cells #[.int .i64 (zAB G (yr : Int)).1, .slice ra (zAB G (yr : Int)).2.length rc] 41)) := boxed _ _
     have v0 : (w5.alloc (.cells #[.int .i64 (zAB G (yr : Int)).1, .slice ra (zAB G (yr : Int)).2.length rc] 41)).cell? ⟨w5.heap.size, 0, none⟩ = some (.int .i64 (zAB G (yr : Int)).1) := zAA rfl rfl
     have k5 : Below wx.heap.size wx (w5.alloc (.cells #[.int .i64 (zAB G (yr : Int)).1, .slice ra (zAB G (yr : Int)).2.length rc] 41)) := Gr.step hb5 hy
     have t0 := cell_later k5 z0
     have t1 := cell_later k5 z1
     have X6 := zSt (X5.out.went k5)
     have W6 := zSt (W5.out.went k5)
     have R6 := zSt (RR.out.below k5 (Nat.le_refl _))
     have B6 := zSt (Gr.step BB.out k5)
     obtain ⟨g0, g1, g2, g3⟩ := X6.out.box
     have hFK := FK.out
     clear hb5 hy k5 z0 z1 x0 x1 x2 x3 RUx X5 W5 RR BB hwxs p0 r0 r1
     obtain ⟨q1, q2, q3, q4, q5⟩ := hFK
     dsimp only at q4 q5
     by_cases hown : yr = G.rules.length
     ·have e1 := q4 hown
      subst e1
      subst hown
      obtain ⟨b3, o3, rfl, u0⟩ := R6.out 0 (by simp [nivs])
      have u1 : (w5.alloc (.cells #[.int .i64 (zAB G (G.rules.length : Int)).1, .slice ra (zAB G (G.rules.length : Int)).2.length rc] 41)).cell? ⟨b3, o3, none⟩ = some (.int .i64 0) := by simpa [nivs] using u0
      simp only [List.length_cons, List.length_nil, Nat.zero_add] at t1
      clear q4 q5 q3 q1 q2 u0 hfew FK
      generalize (zAB G (G.rules.length : Int)).1 = rl at *
      generalize (zAB G (G.rules.length : Int)).2.length = rn at *
      go_wp2_with fail
      go_roundw
      case rel => exact ⟨k + 1, by go_num, by omega, B6.out⟩
      case measure => simp [intOf]; omega
     ·have hlt2 : yr < G.rules.length := by omega
      have hwi := q5 hlt2
      have hyi : ¬ (yr : Int) = (G.rules.length : Int) := by omega
      go_wp2_with fail
      have FOx := zSt (fun w1 (b : Below (w5.alloc (.cells #[.int .i64 (zAB G (yr : Int)).1, .slice ra (zAB G (yr : Int)).2.length rc] 41)).heap.size (w5.alloc (.cells #[.int .i64 (zAB G (yr : Int)).1, .slice ra (zAB G (yr : Int)).2.length rc] 41)) w1) => FO.out _ hv w1 (Gr.step X6.out.below b) (W6.out.went b) (zAB G (yr : Int)).1)
      have WI := zSt (fun w1 (b : Below (w5.alloc (.cells #[.int .i64 (zAB G (yr : Int)).1, .slice ra (zAB G (yr : Int)).2.length rc] 41)).heap.size (w5.alloc (.cells #[.int .i64 (zAB G (yr : Int)).1, .slice ra (zAB G (yr : Int)).2.length rc] 41)) w1) bb dd hB => Fi.zDM (yl.map fun t : Nat => (t : Int)) (lst (folB G (zAB G (yr : Int)).1) (G.terms.length + 1)) a8 bb c8 dd w1 (by rw [← zNx]; exact R6.out.below b (Nat.le_refl _)) hB (by rw [List.length_map]; exact hfew) (Nat.le_trans (Fi.zD9 _ _) (by have := (Fi.zBm hv).t; omega)))
      rw [hwi, List.length_map] at WI
      generalize lst (folB G (zAB G (yr : Int)).1) (G.terms.length + 1) = fl at *
      generalize (zAB G (yr : Int)).1 = rl at *
      generalize (zAB G (yr : Int)).2.length = rn at *
      generalize w5.alloc (.cells #[.int .i64 rl, .slice ra rn rc] 41) = wy at *
      generalize w5.heap.size = bR at *
      have HQ := zSt (fun w' (b : Below wy.heap.size wy w') => (show w'.cell? ⟨bX, 1, none⟩ = some (.slice a8 yl.length c8) /\ w'.cell? ⟨bR, 0, none⟩ = some (.int .i64 rl) from ⟨cell_later b t1, cell_later b v0⟩))
      have kA := drawn wy
      clear q1 q2 q3 q4 q5 hfew FK FO hwi
      go_region_held3 (fun w' => w'.cell? ⟨bX, 1, none⟩ = some (.slice a8 yl.length c8) /\ w'.cell? ⟨bR, 0, none⟩ = some (.int .i64 rl))
       (exact HQ.out _ (by assumption))
       (first
        | (go_at_call 14; (with_reducible refine (FOx.out _ kA).mono ?_); rintro e w7 ⟨af, cf, rfl, hrf, _, hb7⟩; have kB : Below wy.heap.size wy w7 := Gr.step kA hb7; have RF := zSt hrf; clear hrf hb7)
        | (go_at_call 13; (with_reducible refine (WI.out _ kB _ _ RF.out).mono ?_); rintro e w8 ⟨rfl, hb8⟩; have kC : Below wy.heap.size wy w8 := Gr.step kB hb8; clear hb8)
        | fail)
      go_wp2_with fail
      go_roundw
      case rel => exact ⟨k + 1, by go_num, by omega, Gr.step B6.out kC⟩
      case measure => simp [intOf]; omega
    ·have hkk : k = Y.length := by omega
     subst hkk
     clear hB
     go_wp2_with fail
     go_roundw
     case rel => exact ⟨i + 1, by go_num, by omega, B4.out⟩
     case measure => simp [intOf]; omega
  ·have hii : i = Ys.length := by omega
   subst hii
   have X4 := zSt (X3.out.went B3.out)
   have E2 := EE.out
   by_cases he : er = 0
   ·subst he
    have hpos := E2.1 rfl
    have hpos2 : (0 : Int) < (Ys.length : Int) := by omega
    go_wp2_with (go_at_call 7; refine (AW.out _ X4.out.below).mono ?_; rintro e w5 ⟨rfl, hb⟩; have HB5 := zSt (Gr.step X4.out.below hb); clear hb)
    go_ret
    exact ⟨rfl, HB5.out⟩
   ·have h0 : Ys.length = 0 := by
     rcases Nat.eq_zero_or_pos Ys.length with r | r
     ·exact r
     ·exact absurd (E2.2 r) he
    have hb0 : (er == 0) = false := by simpa using he
    go_wp2_with (go_at_call 7; refine (AW.out _ X4.out.below).mono ?_; rintro e w5 ⟨rfl, hb⟩; have HB5 := zSt (Gr.step X4.out.below hb); clear hb)
    go_ret
    exact ⟨rfl, HB5.out⟩
