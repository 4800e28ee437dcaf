/- A part of the proof. -/
import Derived.Test.YtbajcecncgdpmaaGreatDoorPk47
import Derived.Test.YtbajcecncgdpmaaGreatDoorPk42
set_option maxHeartbeats 8000000
set_option maxRecDepth 100000
set_option linter.unusedVariables false
namespace Go.Proofs.YtbajcecncgdpmaaGreatDoor
namespace Lk
open Go.RowKit Go.Maps
open Gr (Gram Sh gv GAt Bx drawn checkN cell_later zDg)
open Im
open Au
theorem zMg (h : Sh) (G : Gram) (w : World) (k : GAt h G w) (htab : Bt.Tab w) :
  Calls Tryz.prog 5 #[gv h G] w (Gr.Is (.bool true) w) := by
 have X0 := zSt (Bx.start h G w 25)
 have MU := zSt (fun w1 (b : Below w.heap.size w w1) => zDg h G w1 (k.went b))
 have LU := zSt (fun w1 (b : Below w.heap.size w w1) => zD8 h G w1 (k.went b) (htab.below b htab.pos))
 have BU := zSt (fun w1 (b : Below w.heap.size w w1) => zGC h G w1 (k.went b) (fun hv => Nat.le_trans (zEK hv) (by omega)))
 have CL := zSt (fun (hv : checkN G = 0) L a c w1 (b : Below w.heap.size w w1) kl (hL : L.length <= 10000) hr => zJU h G hv L a c w1 (k.went b) kl hL hr)
 have BH := zSt (fun x w1 (b : Below w.heap.size w w1) => zHd h G x w1 (k.went b))
 have AW := zSt (fun w1 (b : Below w.heap.size w w1) => zF5 w1 (htab.below b htab.pos))
 clear k htab
 obtain ⟨x0, x1, x2, x3⟩ := X0.out.box
 unfold gv at *
 go_enter Tryz.func5, Tryz.ntmps5
 go_wp2_with fail
 refine (MU.out _ X0.out.below).mono ?_
 rintro e w1 ⟨n, rfl, hn, hb⟩
 have X1 := zSt (X0.out.went hb)
 clear hb MU hn x0 x1 x2 x3 X0
 obtain ⟨x0, x1, x2, x3⟩ := X1.out.box
 by_cases hn9 : 60 < n
 ·go_wp2_with (go_at_call 7; refine (AW.out _ X1.out.below).mono ?_; rintro e w2 ⟨rfl, hb⟩; have HB := zSt (Gr.step X1.out.below hb); clear hb)
  go_ret
  exact ⟨rfl, HB.out⟩
 go_wp2_with fail
 refine (LU.out _ X1.out.below).mono ?_
 rintro e w2 ⟨er, Ys, a, c, rfl, hI, hR, hb⟩
 have X2 := zSt (X1.out.went hb)
 have R2 := zSt hR
 clear hb hR x0 x1 x2 x3 X1 LU
 obtain ⟨x0, x1, x2, x3⟩ := X2.out.box
 go_wp2_with fail
 refine (BU.out _ X2.out.below).mono ?_
 rintro e w3 ⟨X, fr, a', c', rfl, hbu, hX, hc, hb⟩
 obtain ⟨rfl, hXl, hAll⟩ := zHv hI hbu
 have SM := (show checkN G = 0 -> Small X from fun _ => by
  by_cases he : er = 0
  ·subst he
   exact zDn hbu
  ·rw [zQJ hbu he]
   exact ⟨Nat.zero_le _, fun s hs => (List.not_mem_nil hs).elim, fun s hs => (List.not_mem_nil hs).elim⟩)
 have ALL := zSt hAll
 have SX := zSt hX
 have X3 := zSt (X2.out.went hb)
 have R3 := zSt (R2.out.went hb)
 clear hI hbu hX hc hb hAll x0 x1 x2 x3 X2 R2 BU
 rw [hXl]
 have hYl : Ys.length <= 1000000 := by
  by_cases h0 : 0 < Ys.length
  ·obtain ⟨_, hv, _⟩ := ALL.out 0 h0 (by omega)
   have := (SM hv).len
   omega
  ·omega
 go_wp2_with fail
 go_loopw [7] (fun t wr => ∃ i : Nat, t = .int .i64 i /\ i <= Ys.length /\ Below w3.heap.size w3 wr) (fun t _ => Ys.length - (intOf t).toNat)
 case atStart => exact ⟨0, rfl, Nat.zero_le _, .refl _ _⟩
 case round =>
  obtain ⟨i, rfl, hil, hB⟩ := hrel
  have X4 := zSt (X3.out.went hB)
  have B3 := zSt hB
  by_cases hi : i < Ys.length
  ·obtain ⟨q, hv, D, hiq, hst, hys⟩ := ALL.out i hi (by omega)
   obtain ⟨bl, a2, c2, rfl, p0, p1⟩ := (R3.out.went hB) i hi
   obtain ⟨bm, om, a1, c1, a9, c9, rfl, s0, s1, hI1, _⟩ := (SX.out.went (Gr.step (.refl _ _) hB)) i (by omega)
   rw [hys] at p0 p1
   rw [hst] at s0 hI1
   have hr := (Fi.zBm hv).r
   have kl : (zAF q.1 i).length <= 10000 := Nat.le_trans (zCl (D.ok.good _ (zAf hiq)).2.1 (D.ok.good _ (zAf hiq)).2.2) (Nat.le_trans (zAe hv) (by omega))
   have CLx := zSt (fun w1 (b : Below wr.heap.size wr w1) => CL.out hv (zAF q.1 i) a1 c1 w1 (Gr.step X4.out.below b) (hI1.went b) kl (by omega))
   obtain ⟨x0, x1, x2, x3⟩ := X4.out.box
   have HQ := zSt (fun w' (b : Below wr.heap.size wr w') => (show w'.cell? ⟨w.heap.size, 0, none⟩ = some (.slice h.a1 G.terms.length h.c1) /\ w'.cell? ⟨w.heap.size, 1, none⟩ = some (.slice h.a2 G.nons.length h.c2) /\ w'.cell? ⟨w.heap.size, 2, none⟩ = some (.slice h.a3 G.rules.length h.c3) /\ w'.cell? ⟨w.heap.size, 3, none⟩ = some (.int .i64 G.start) /\ w'.cell? ⟨bm, om + i * 2, none⟩ = some (.slice a1 (zAF q.1 i).length c1) from ⟨cell_later b x0, cell_later b x1, cell_later b x2, cell_later b x3, cell_later b s0⟩))
   have P0 := zSt p0
   have P1 := zSt p1
   have kA := drawn wr
   have hi3 : (i : Int) < (Ys.length : Int) := by omega
   clear hB hys hst hI1 s1 p0 p1 x0 x1 x2 x3 s0
   go_wp2_with fail
   go_region_held3 (fun w' => w'.cell? ⟨w.heap.size, 0, none⟩ = some (.slice h.a1 G.terms.length h.c1) /\ w'.cell? ⟨w.heap.size, 1, none⟩ = some (.slice h.a2 G.nons.length h.c2) /\ w'.cell? ⟨w.heap.size, 2, none⟩ = some (.slice h.a3 G.rules.length h.c3) /\ w'.cell? ⟨w.heap.size, 3, none⟩ = some (.int .i64 G.start) /\ w'.cell? ⟨bm, om + i * 2, none⟩ = some (.slice a1 (zAF q.1 i).length c1))
    (exact HQ.out _ (by assumption))
    (first
     | (go_at_call 16; (with_reducible refine (CLx.out _ kA).mono ?_); rintro e w5 ⟨C, aC, cC, rfl, hcap, hIs, hIC, hb5⟩; have kB : Below wr.heap.size wr w5 := Gr.step kA hb5; have IS := zSt hIs; have IC := zSt hIC; clear hcap hIs hIC hb5)
     | fail)
   have hCl : C.length <= 2709 := Nat.le_trans (zCl IS.out.1 fun x hx => zAS ((IS.out.2 x).1 hx)) (zAe hv)
   have X5 := zSt (X4.out.went kB)
   have B5 := zSt (Gr.step B3.out kB)
   have Q0 := zSt (cell_later kB P0.out)
   have Q1 := zSt (P1.out.went kB)
   have EA := zSt (fun k (hk : k < C.length) hb => zRJ IS.out hk hb)
   have EL := zSt (zPi IS.out)
   clear kA kB HQ CLx P0 P1 X4 B3
   go_wp2_with fail
   go_loopw [9, 10] (fun nn t wz => ∃ k : Nat, t = .int .i64 k /\ k <= C.length /\ nn = .int .i64 ((endR G (C.take k)).length : Nat) /\ Below w5.heap.size w5 wz) (fun _ t _ => C.length - (intOf t).toNat)
   case atStart => exact ⟨0, rfl, Nat.zero_le _, rfl, .refl _ _⟩
   case round =>
    obtain ⟨k, rfl, hkl, rfl, hB⟩ := hrel
    have X6 := zSt (X5.out.went hB)
    have B6 := zSt hB
    by_cases hlt : k < C.length
    ·obtain ⟨b5, o5, rfl, t0, t1⟩ := (IC.out.went hB).at k hlt
     obtain ⟨x0, x1, x2, x3⟩ := X6.out.box
     have BHx := zSt (fun w1 (b : Below wr.heap.size wr w1) => BH.out C[k] w1 (Gr.step X6.out.below b))
     have HQ := zSt (fun w' (b : Below wr.heap.size wr w') => (show w'.cell? ⟨w.heap.size, 0, none⟩ = some (.slice h.a1 G.terms.length h.c1) /\ w'.cell? ⟨w.heap.size, 1, none⟩ = some (.slice h.a2 G.nons.length h.c2) /\ w'.cell? ⟨w.heap.size, 2, none⟩ = some (.slice h.a3 G.rules.length h.c3) /\ w'.cell? ⟨w.heap.size, 3, none⟩ = some (.int .i64 G.start) /\ w'.cell? ⟨b5, o5 + k * 2, none⟩ = some (.int .i64 C[k].1) /\ w'.cell? ⟨b5, o5 + k * 2 + 1, none⟩ = some (.int .i64 C[k].2) from ⟨cell_later b x0, cell_later b x1, cell_later b x2, cell_later b x3, cell_later b t0, cell_later b t1⟩))
     have ET := zSt (zGQ (G := G) hlt)
     have EAk := zSt (fun hb => EA.out k hlt hb)
     have kA := drawn wr
     have hk3 : (k : Int) < (C.length : Int) := by omega
     have hm9 : (endR G (C.take k)).length <= 2709 := Nat.le_trans (zH8 _ _) (by rw [List.length_take]; omega)
     have p0 := Q0.out
     have p0 := cell_later hB p0
     have p1 := Q1.out.went hB
     unfold iv at BHx
     generalize C[k].1 = xr at *
     generalize C[k].2 = xd at *
     clear hB x0 x1 x2 x3 t1
     cases hb : behB G C[k] with
     | true =>
      rw [hb] at BHx ET
      clear EAk hb p0 p1 t0
      go_wp2_with fail
      go_region_held3 (fun w' => w'.cell? ⟨w.heap.size, 0, none⟩ = some (.slice h.a1 G.terms.length h.c1) /\ w'.cell? ⟨w.heap.size, 1, none⟩ = some (.slice h.a2 G.nons.length h.c2) /\ w'.cell? ⟨w.heap.size, 2, none⟩ = some (.slice h.a3 G.rules.length h.c3) /\ w'.cell? ⟨w.heap.size, 3, none⟩ = some (.int .i64 G.start) /\ w'.cell? ⟨b5, o5 + k * 2, none⟩ = some (.int .i64 xr) /\ w'.cell? ⟨b5, o5 + k * 2 + 1, none⟩ = some (.int .i64 xd))
       (exact HQ.out _ (by assumption))
       (first
        | (go_at_call 17; (with_reducible refine (BHx.out _ kA).mono ?_); rintro e w7 ⟨rfl, hb7⟩; have kB : Below wr.heap.size wr w7 := Gr.step kA hb7; clear hb7)
        | fail)
      go_wp2_with fail
      go_roundw
      case rel => exact ⟨k + 1, by go_num, by omega, by rw [ET.out]; simp, Gr.step B6.out kB⟩
      case measure => simp [intOf]; omega
     | false =>
      rw [hb] at BHx ET
      obtain ⟨hl, he⟩ := EAk.out hb
      obtain ⟨b8, a8, c8, rfl, r0, r1, r2⟩ := p1 _ hl
      rw [he] at r0
      have ET2 := zSt (show (endR G (C.take (k + 1))).length = (endR G (C.take k)).length + 1 by rw [ET.out]; simp)
      clear EAk hb he p1 r1 r2 EA EL ET
      have hml : ((endR G (C.take k)).length : Int) < ((zAY G q i).length : Int) := by omega
      clear hl
      generalize (endR G (C.take k)).length = m at *
      generalize (zAY G q i).length = el at *
      go_wp2_with fail
      go_region_held3 (fun w' => w'.cell? ⟨w.heap.size, 0, none⟩ = some (.slice h.a1 G.terms.length h.c1) /\ w'.cell? ⟨w.heap.size, 1, none⟩ = some (.slice h.a2 G.nons.length h.c2) /\ w'.cell? ⟨w.heap.size, 2, none⟩ = some (.slice h.a3 G.rules.length h.c3) /\ w'.cell? ⟨w.heap.size, 3, none⟩ = some (.int .i64 G.start) /\ w'.cell? ⟨b5, o5 + k * 2, none⟩ = some (.int .i64 xr) /\ w'.cell? ⟨b5, o5 + k * 2 + 1, none⟩ = some (.int .i64 xd))
       (exact HQ.out _ (by assumption))
       (first
        | (go_at_call 17; (with_reducible refine (BHx.out _ kA).mono ?_); rintro e w7 ⟨rfl, hb7⟩; have kB : Below wr.heap.size wr w7 := Gr.step kA hb7; clear hb7)
        | fail)
      have t7 := cell_later kB t0
      have p7 := cell_later kB p0
      have r7 := cell_later kB r0
      clear t0 p0 r0 HQ BHx kA
      have hge : ¬ ((el : Int) <= (m : Int)) := by omega
      have hgn : ¬ el <= m := by omega
      have hmn : m < el := by omega
      have hm0 : (0 : Int) <= (m : Int) := by omega
      have hi0 : (0 : Int) <= (i : Int) := by omega
      have hk0 : (0 : Int) <= (k : Int) := by omega
      go_wp2_with fail
      go_region_held3 (fun w' => w'.cell? ⟨b5, o5 + k * 2, none⟩ = some (.int .i64 xr) /\ w'.cell? ⟨bl, i, none⟩ = some (.slice (some ⟨b8, 0, none⟩) el c2) /\ w'.cell? ⟨b8, m * 2, none⟩ = some (.int .i64 xr))
       (exact ⟨t7, p7, r7⟩)
       (fail)
      go_wp2_with fail
      go_roundw
      case rel => exact ⟨k + 1, by go_num, by omega, by rw [ET2.out]; go_num, Gr.step (Gr.step B6.out kB) (by first | exact drawn _ | exact .refl _ _)⟩
      case measure => simp [intOf]; omega
    ·have hkk : k = C.length := by omega
     subst hkk
     have p0 := cell_later hB Q0.out
     have hel := EL.out
     generalize (endR G (C.take C.length)).length = m at *
     subst hel
     clear hB
     go_wp2_with fail
     go_roundw
     case rel => exact ⟨i + 1, by go_num, by omega, Gr.step B5.out B6.out⟩
     case measure => simp [intOf]; omega
  ·have hii : i = Ys.length := by omega
   subst hii
   go_wp2_with (go_at_call 7; refine (AW.out _ X4.out.below).mono ?_; rintro e w5 ⟨rfl, hb⟩; have HB5 := zSt (Gr.step X4.out.below hb); clear hb)
   go_ret
   exact ⟨rfl, HB5.out⟩
