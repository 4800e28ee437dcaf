/- A part of the proof. -/
import Derived.Test.YtbajcecncgdpmaaGreatDoorPk48
import Derived.Test.YtbajcecncgdpmaaGreatDoorPk49
import Derived.Test.YtbajcecncgdpmaaGreatDoorPk50
import Derived.Test.YtbajcecncgdpmaaGreatDoorPk42
set_option maxHeartbeats 8000000
set_option maxRecDepth 100000
set_option linter.unusedVariables false
set_option linter.unusedSimpArgs false
namespace Go.Proofs.YtbajcecncgdpmaaGreatDoor
open Go.RowKit Go.Maps
namespace Lk
open Gr (Gram Sh gv GAt Bx boxed drawn zAA cell_later checkN zAD zAN)
open Im
open Au
open Rw (Bk zAF)
theorem zNx : (Tryz.prog.info? 36).map (fun i => (i.zero, i.size, i.bytes)) = some (some (.slice none 0 0), 1, 24) := by kernel_rfl
structure Trm (wy : World) (bX : Nat) (k : Int) (L : List Nat) (v : Value) (w : World) : Prop where
 below : Below wy.heap.size wy w
 at_ : bX = wy.heap.size
 box : Bk bX #[.int .i64 k, v] 39 w
 row : w.ownsRow (bX + 1) 3 1 v L.length (nivs L)
theorem Trm.start (wy : World) (k : Int) (bX : Nat) (hb : bX = wy.heap.size) : Trm wy bX k [] (.slice none 0 0) (wy.alloc (.cells #[.int .i64 k, .slice none 0 0] 39)) :=
 ⟨boxed _ _, hb, Bk.new wy _ _ _ hb, World.ownsRow_nil _ _ _ _⟩
theorem Trm.more {wy : World} {bX : Nat} {k : Int} {L : List Nat} {v : Value} {w : World} (t : Trm wy bX k L v w) (u : Nat) :
  (w.alloc (.cells #[.int .i64 (u : Int)] 3)).ownsRow (bX + 1) 3 1 v L.length (nivs L) /\ (w.alloc (.cells #[.int .i64 (u : Int)] 3)).ownsRow (bX + 1) 3 1 (.slice (some ⟨w.heap.size, 0, none⟩) 1 1) 1 [.int .i64 (u : Int)] /\ bX + 1 <= (w.alloc (.cells #[.int .i64 (u : Int)] 3)).heap.size /\
  ∀ v' w2, w2.ownsRow (bX + 1) 3 1 v' (L.length + 1) (nivs L ++ [.int .i64 (u : Int)]) -> (w.alloc (.cells #[.int .i64 (u : Int)] 3)).grownBy w2 v.ownBlock -> (w2.cell? ⟨bX, 1, none⟩ = some v /\ w2.frozen? ⟨bX, 1, none⟩ = false) /\ Trm wy bX k (L ++ [u]) v' (w2.setCell ⟨bX, 1, none⟩ v') := by
 have bl := boxed w (.cells #[.int .i64 (u : Int)] 3)
 have hl := t.box.lt
 refine ⟨Sep.zAC t.row fun g hg => bl.block g (t.row.lt g hg).2, zGS _ _ _ _ _ rfl (by omega), Nat.le_trans (by omega) bl.size, fun v' w2 hown hg => ?_⟩
 have hne : v.ownBlock ≠ some bX := fun e => by
  have := (t.row.lt bX e).1
  omega
 have hB : Bk bX #[.int .i64 k, v] 39 w2 := (t.box.went bl).grown hg fun k' e e2 => hne (by rw [e, e2])
 refine ⟨⟨hB.cell rfl, hB.free 1⟩, ?_, t.at_, ?_, ?_⟩
 ·have b1 : Below wy.heap.size wy (w.alloc (.cells #[.int .i64 (u : Int)] 3)) := Gr.step t.below bl
  have b2 : Below wy.heap.size wy w2 := b1.trans ⟨hg.os, hg.tape, hg.output, hg.size, fun g hgl => hg.block g (Nat.lt_of_lt_of_le hgl b1.size) fun e => by
   have := (t.row.lt g e.symm).1
   have := t.at_
   omega⟩
  exact b2.setCell (by have := t.at_; simp; omega) _
 ·have := hB.set (j := 1) (by simp) v'
  simpa using this
 ·rw [List.length_append, show nivs (L ++ [u]) = nivs L ++ [.int .i64 (u : Int)] by simp [nivs]]
  refine Sep.zAC hown fun g e => Below.heap_setCell _ _ _ _ fun e2 => ?_
  have := (hown.lt g e).1
  dsimp only at e2
  omega
theorem Trm.look {W0 wy w wt : World} {bX : Nat} {G : Gram} {q : Whole} {i k n8 c8 : Nat} {a8 : Option Addr} {Z : List Lkx} {v : Value} (t : Trm wy bX (k : Int) (laL G q i (endI G k)) (.slice a8 n8 c8) wt) (hn : n8 = (laL G q i (endI G k)).length) (h : EndI G q i W0.heap.size (endT G q i k) Z v w) (hB : Below W0.heap.size W0 w) (hw : Below w.heap.size w wt) (hbx : w.heap.size <= bX) (hk : k <= G.rules.length) (hc : Clo G (zAG q.1 i) (endI G k)) :
  (wt.alloc (.cells #[.int .i64 (k : Int), .slice a8 n8 c8] 39)).ownsRow W0.heap.size 39 2 v Z.length (Z.flatMap lc) /\ (wt.alloc (.cells #[.int .i64 (k : Int), .slice a8 n8 c8] 39)).ownsRow W0.heap.size 39 2 (.slice (some ⟨wt.heap.size, 0, none⟩) 1 1) 1 [.int .i64 (k : Int), .slice a8 n8 c8] /\ W0.heap.size <= (wt.alloc (.cells #[.int .i64 (k : Int), .slice a8 n8 c8] 39)).heap.size /\
  ∀ v' w9, w9.ownsRow W0.heap.size 39 2 v' (Z.length + 1) (Z.flatMap lc ++ [.int .i64 (k : Int), .slice a8 n8 c8]) -> (wt.alloc (.cells #[.int .i64 (k : Int), .slice a8 n8 c8] 39)).grownBy w9 v.ownBlock -> (v'.ownBlock = v.ownBlock \/ v'.ownBlock = some (wt.alloc (.cells #[.int .i64 (k : Int), .slice a8 n8 c8] 39)).heap.size) ->
   EndI G q i W0.heap.size (endT G q i (k + 1)) (Z ++ [((k : Int), a8, n8, c8)]) v' w9 /\ Below W0.heap.size W0 w9 := by
 subst hn
 have ba := boxed wt (.cells #[.int .i64 (k : Int), .slice a8 (laL G q i (endI G k)).length c8] 39)
 have bwa := Gr.step hw ba
 have hz := hB.size
 refine ⟨(h.went bwa).row, zId 39 W0.heap.size wt.heap.size ((k : Int), a8, (laL G q i (endI G k)).length, c8) wt rfl (Nat.le_trans hz hw.size), Nat.le_trans hz bwa.size, fun v' w9 hown hg hv => ⟨?_, ?_⟩⟩
 ·rw [zPj hc]
  refine h.snoc (zMi hk hc) (y := ((k : Int), a8, (laL G q i (endI G k)).length, c8)) rfl bwa hz ?_ hown hg (hv.imp id fun e g2 e2 => ?_)
  ·exact Sep.zAC (Rw.zA7 t.row (by omega)) fun g e => ba.block g (World.ownsRow.lt t.row g e).2
  ·rw [e] at e2
   injection e2 with e2
   omega
 ·have b9 : Below W0.heap.size W0 (wt.alloc (.cells #[.int .i64 (k : Int), .slice a8 (laL G q i (endI G k)).length c8] 39)) := hB.trans (bwa.mono hz)
  exact b9.trans ⟨hg.os, hg.tape, hg.output, hg.size, fun g hgl => hg.block g (Nat.lt_of_lt_of_le hgl b9.size) fun e => by
   have := (World.ownsRow.lt h.row g e.symm).1
   omega⟩
theorem zNN (h : Sh) (G : Gram) (w : World) (k : GAt h G w) :
  Calls Tryz.prog 8 #[gv h G] w (zIg G w) := by
 have X := zUB (Bx.start h G w 25)
 have BU := zUB (fun w1 (b : Below w.heap.size w w1) => zJ3 h G w1 (k.went b))
 have BG := zUB (fun w1 (b : Below w.heap.size w w1) (hv : checkN G = 0) (q : Whole) (D : Done G q) (hlen : q.1.length <= 2000) (aL : Option Addr) (cL : Nat) hS hsm => zC2 h G hv D hlen w1 (k.went b) aL cL hS hsm)
 have RU := zUB (fun x w1 (b : Below w.heap.size w w1) => Gr.zDE h G x w1 (k.went b))
 obtain ⟨i0, hj0, hx0, hx1, hx2⟩ := info_parts zNx
 obtain ⟨i1, hj1, hy0, hy1, hy2⟩ := info_parts zGw
 obtain ⟨i2, hj2, hz0, hz1, hz2⟩ := info_parts Bt.zAx
 clear k
 unfold gv at *
 go_enter Tryz.func8, Tryz.ntmps8
 go_wp2_with fail
 refine (BU.out _ X.out.below).mono ?_
 rintro e w1 ⟨ST, er, aX, cX, rfl, hB, hS, hle, hb1⟩
 have X1 := zUB (X.out.went hb1)
 rcases zD8 hB with ⟨h0, rfl, hB'⟩ | ⟨rfl, hv, q, rfl, D, hlen, hB'⟩
 ·clear hB
  go_wp2
  refine bodyPost_ret (v := .tuple #[.slice none 0 0, .int .i64 er]) (by simp [results, Tryz.results8, go_sem]) rfl ?_
  exact ⟨er, [], none, 0, rfl, .bad hB' h0, fun k hk => absurd hk (Nat.not_lt_zero k), X1.out.below⟩
 ·clear hB BU
  obtain ⟨x0, x1, x2, x3⟩ := X1.out.box
  have hsl : (states q).length = q.1.length := zAo D.all
  have BE := zUB (BG.out w1 X1.out.below hv q D hlen aX cX hS (zEd hB'))
  clear BG hS hle hb1
  rw [hsl] at *
  go_wp2_with fail
  refine BE.out.mono ?_
  rintro e w2 ⟨W, vF, Y, M, E, p, q1, q2, k1, k2, H, rfl, hbW, hBs, hL, hso, hY⟩
  have FI := zUB (zNy hBs w2 hL hso rfl hY)
  have BW := zUB (X1.out.below.trans (hbW.mono X1.out.below.size))
  have XW := zUB (X1.out.went hbW)
  have BS := zUB hBs
  have YM := zUB hY
  clear BE hL hso hbW hBs hY X1
  go_wp2_with fail
  refine FI.out.mono ?_
  rintro e w3 ⟨rfl, H3, hL3, hLa⟩
  have X3 := zUB (XW.out.went hL3.below)
  have L3 := zUB hL3
  have LA := zUB hLa
  have LAL := zUB (fun i x => zSt hLa i x)
  have hR := (Fi.zAs hv).r
  have hT : G.terms.length <= 1000 := by have := (Fi.zAs hv).t; omega
  clear FI hL3 hLa XW H x0 x1 x2 x3
  go_wp2_with fail
  go_loopw [7, 8] (fun v t wr => ∃ (i : Nat) (V : Nat -> Value) (a : Option Addr) (c : Nat), t = .int .i64 i /\ i <= q.1.length /\ v = .slice a i c /\ LsI G q w3.heap.size i V v wr /\ Below w3.heap.size w3 wr) (fun _ t _ => q.1.length - (intOf t).toNat)
  case atStart => exact ⟨0, fun _ => .slice none 0 0, none, 0, rfl, Nat.zero_le _, rfl, LsI.nil _ _ _ _ _, .refl _ _⟩
  case round =>
   obtain ⟨i, V, a, c, rfl, hil, rfl, hLs, hB3⟩ := hrel
   have LI := zUB hLs
   have B3 := zUB hB3
   have hsz := hB3.size
   clear hLs hB3
   by_cases hi : i < q.1.length
   ·have hi3 : (i : Int) < (q.1.length : Int) := by omega
    go_wp2_with fail
    go_loopw [9, 10] (fun v t wz => ∃ (k : Nat) (Z : List Lkx) (az : Option Addr) (cz : Nat), t = .int .i64 k /\ k <= G.rules.length + 1 /\ v = .slice az Z.length cz /\ EndI G q i wr.heap.size (endT G q i k) Z v wz /\ Below wr.heap.size wr wz) (fun _ t _ => G.rules.length + 1 - (intOf t).toNat)
    case atStart => exact ⟨0, [], none, 0, rfl, Nat.zero_le _, rfl, EndI.nil G q i _ _, .refl _ _⟩
    case round =>
     obtain ⟨k, Z, az, cz, rfl, hkl, rfl, hE, hBz⟩ := hrel
     have E := zUB hE
     have BR := zUB hBz
     have BZ := zUB (B3.out.trans (hBz.mono hsz))
     have hrz := hBz.size
     clear hE hBz
     by_cases hlt : k <= G.rules.length
     ·have hk3 : (k : Int) <= (G.rules.length : Int) := by omega
      have X5 := zUB (X3.out.went BZ.out)
      have hrb : zAN G (k : Int) = true := by unfold zAN; exact decide_eq_true ⟨by omega, by omega⟩
      have RUx := zUB (RU.out (k : Int) wr X5.out.below)
      rw [hrb] at RUx
      have hZl : Z.length <= 1000 := Nat.le_trans E.out.len (Nat.le_trans (zOy G q i k) (by omega))
      have hrl := zBF hv (r := k) hlt
      unfold rlen at hrl
      obtain ⟨x0, x1, x2, x3⟩ := X5.out.box
      go_wp2_with fail
      refine RUx.out.mono ?_
      rintro e w5 ⟨ra, rc, rfl, _, hb5⟩
      have hy : Below w5.heap.size w5 (w5.alloc (.cells #[.int .i64 (zAD G (k : Int)).1, .slice ra (zAD G (k : Int)).2.length rc] 41)) := boxed _ _
      have v1 : (w5.alloc (.cells #[.int .i64 (zAD G (k : Int)).1, .slice ra (zAD G (k : Int)).2.length rc] 41)).cell? ⟨w5.heap.size, 1, none⟩ = some (.slice ra (zAD G (k : Int)).2.length rc) := zAA rfl rfl
      have k5 := Gr.step hb5 hy
      have K5 := zUB k5
      have HE := zUB (show endI G k = ((k : Int), (((zAD G (k : Int)).2.length : Nat) : Int)) from rfl)
      clear hb5 hy RUx x0 x1 x2 x3 hrb
      generalize (zAD G (k : Int)).1 = rl at *
      generalize (zAD G (k : Int)).2.length = rn at *
      go_wp2_with fail
      generalize w5.alloc (.cells #[.int .i64 rl, .slice ra rn rc] 41) = wy at *
      generalize w5.heap.size = bR at *
      have L5 := zUB (L3.out.went (BZ.out.trans (k5.mono BZ.out.size)))
      have p6 := L5.out.box.cell (j := 6) rfl
      obtain ⟨ai, ci, l0, l1, _⟩ := L5.out.items i hi
      have IX := zUB (fun w1 (b : Below wy.heap.size wy w1) => zGf (Y i) ai ci (endI G k) w1 (l1.went b) (BS.out.lists i hi).2)
      unfold iv at IX
      rw [HE.out] at IX
      dsimp only at IX
      have HQ := zUB (fun w' (b : Below wy.heap.size wy w') => (show w'.cell? ⟨p, 6, none⟩ = some (.slice (some ⟨q1, 0, none⟩) q.1.length k1) /\ w'.cell? ⟨q1, i, none⟩ = some (.slice ai (Y i).length ci) /\ w'.cell? ⟨bR, 1, none⟩ = some (.slice ra rn rc) from ⟨cell_later b p6, cell_later b l0, cell_later b v1⟩))
      have kA := drawn wy
      clear p6 l0 l1 v1 k5
      by_cases hc : Clo G (zAG q.1 i) (endI G k)
      ·obtain ⟨m, e1, hm, e2⟩ := zE9 ((YM.out i hi _).2 hc)
       rw [← HE.out, e1] at IX
       have hm3 : (m : Int) < ((Y i).length : Int) := by omega
       have hm0 : ¬ (m : Int) < 0 := by omega
       have hi0 : (0 : Int) <= (i : Int) := by omega
       go_region_held3 (fun w' => w'.cell? ⟨p, 6, none⟩ = some (.slice (some ⟨q1, 0, none⟩) q.1.length k1) /\ w'.cell? ⟨q1, i, none⟩ = some (.slice ai (Y i).length ci) /\ w'.cell? ⟨bR, 1, none⟩ = some (.slice ra rn rc))
        (exact HQ.out _ (by assumption))
        (first
         | (go_at_call 21; refine (IX.out _ kA).mono ?_; rintro e w7 ⟨rfl, hb7⟩; have kB : Below wy.heap.size wy w7 := Gr.step kA hb7; clear hb7)
         | fail)
       have L7 := zUB (L5.out.went kB)
       have T0 := zUB (Trm.start w7 (k : Int) w7.heap.size rfl)
       have B7 := zUB (K5.out.trans (kB.mono K5.out.size))
       clear HQ IX kA L5 K5 kB
       go_wp2_with fail
       go_loopw [15] (fun t wt => ∃ (u : Nat) (a8 : Option Addr) (c8 : Nat), t = .int .i64 u /\ u <= G.terms.length + 1 /\ Trm w7 w7.heap.size (k : Int) (upT H3 i (endI G k) u) (.slice a8 (upT H3 i (endI G k) u).length c8) wt) (fun t _ => G.terms.length + 1 - (intOf t).toNat)
       case atStart => exact ⟨0, none, 0, rfl, Nat.zero_le _, T0.out⟩
       case round =>
        obtain ⟨u, a8, c8, rfl, hul, hTr⟩ := hrel
        have TR := zUB hTr
        have L8 := L7.out.went hTr.below
        have p7 := L8.box.cell (j := 7) rfl
        obtain ⟨ah, ch, m0, m1⟩ := L8.has i hi
        obtain ⟨rfl, m2⟩ := m1 m hm
        have rw0 := (L8.row i m hi hm).at_ u
        rw [e2] at rw0
        have x1 := hTr.box.cell (j := 1) (v := .slice a8 (upT H3 i (endI G k) u).length c8) rfl
        have x0 := hTr.box.cell (j := 0) (v := .int .i64 (k : Int)) rfl
        have hl8 := zRh H3 i (endI G k) u
        clear L8 m1 T0 hTr
        by_cases hu : u < G.terms.length + 1
        ·have hu3 : (u : Int) < ((G.terms.length + 1 : Nat) : Int) := by omega
         have hu4 : (u : Int) < (G.terms.length : Int) + 1 := by omega
         have r0 := rw0 hu
         cases hH : H3 i (endI G k) (u : Int) with
         | false =>
          have UM := zUB (zOG hH)
          rw [hH] at r0
          clear hH rw0
          go_wp2_with fail
          go_roundw
          case rel => exact ⟨u + 1, a8, c8, by go_num, by omega, by rw [UM.out]; exact TR.out⟩
          case measure => simp [intOf]; omega
         | true =>
          have UM := zUB (zRp hH)
          rw [hH] at r0
          clear hH rw0
          obtain ⟨r1, r2, r3, r4⟩ := TR.out.more u
          have R1 := zUB r1
          have R2 := zUB r2
          have R4 := zUB r4
          clear r1 r2 r4
          generalize upT H3 i (endI G k) u = T8 at *
          go_wp2_with (at_builtin; refine zAF _ rfl _ _ 37 rfl (w7.heap.size + 1) 3 i2 (.int .i64 0) 1 8 Tryz.underlying37 hj2 hz0 hz1 hz2 rfl (by decide) (.slice a8 T8.length c8) T8.length (nivs T8) rfl R1.out (w7.heap.size + 1) _ 1 [.int .i64 (u : Int)] rfl R2.out (by simp [Value.oneCell']) (by unfold maxLen; omega) (by omega) r3 ?_; intro v9 w9 hown hg _; obtain ⟨⟨g1, fz1⟩, hT9⟩ := R4.out v9 w9 hown hg; obtain ⟨a9, c9, rfl⟩ := Rw.zAH hown; have T9 := zUB hT9; clear hown hg hT9)
          go_roundw
          case rel => exact ⟨u + 1, a9, c9, by go_num, by omega, by rw [UM.out, List.length_append]; exact T9.out⟩
          case measure => simp [intOf]; omega
        ·have huu : u = G.terms.length + 1 := by omega
         subst huu
         have UL : upT H3 i (endI G k) (G.terms.length + 1) = laL G q i (endI G k) := LAL.out i (endI G k)
         rw [UL] at TR x1 hl8
         obtain ⟨r1, r2, r3, r4⟩ := TR.out.look rfl E.out BR.out (B7.out.trans (TR.out.below.mono B7.out.size)) B7.out.size hlt hc
         have R1 := zUB r1
         have R2 := zUB r2
         have R4 := zUB r4
         clear r1 r2 r4 UL rw0
         generalize (laL G q i (endI G k)).length = n8 at *
         go_wp2_with (at_builtin; refine zAF _ rfl _ _ 36 rfl _ 39 i1 (.agg #[.int .i64 0, .slice none 0 0]) 2 32 Tryz.underlying36 hj1 hy0 hy1 hy2 rfl (by decide) (.slice az Z.length cz) Z.length (Z.flatMap lc) rfl R1.out _ _ 1 [.int .i64 (k : Int), .slice a8 n8 c8] rfl R2.out (zP9 ((k : Int), a8, n8, c8)) (by unfold maxLen; omega) (by omega) r3 ?_; intro v9 w9 hown hg hloc; obtain ⟨hE9, hB9⟩ := R4.out v9 w9 hown hg hloc; obtain ⟨a9, c9, rfl⟩ := Rw.zAH hown; have E9 := zUB hE9; have B9 := zUB hB9; clear hown hg hloc hE9 hB9)
         go_roundw
         case rel => exact ⟨k + 1, _, a9, c9, by go_num, by omega, by rw [List.length_append]; rfl, E9.out, B9.out⟩
         case measure => simp [intOf]; omega
      ·have e1 := zIJ fun q => hc ((YM.out i hi _).1 q)
       rw [← HE.out, e1] at IX
       have hi0 : (0 : Int) <= (i : Int) := by omega
       go_region_held3 (fun w' => w'.cell? ⟨p, 6, none⟩ = some (.slice (some ⟨q1, 0, none⟩) q.1.length k1) /\ w'.cell? ⟨q1, i, none⟩ = some (.slice ai (Y i).length ci) /\ w'.cell? ⟨bR, 1, none⟩ = some (.slice ra rn rc))
        (exact HQ.out _ (by assumption))
        (first
         | (go_at_call 21; refine (IX.out _ kA).mono ?_; rintro e w7 ⟨rfl, hb7⟩; have kB : Below wy.heap.size wy w7 := Gr.step kA hb7; clear hb7)
         | fail)
       have B7 := zUB (K5.out.trans (kB.mono K5.out.size))
       go_wp2_with fail
       go_roundw
       case rel => exact ⟨k + 1, Z, az, cz, by go_num, by omega, rfl, by rw [zKi hc]; exact E.out.went B7.out, BR.out.trans (B7.out.mono hrz)⟩
       case measure => simp [intOf]; omega
     ·have hkk : k = G.rules.length + 1 := by omega
      subst hkk
      have hkn : ¬ ((G.rules.length + 1 : Nat) : Int) <= (G.rules.length : Int) := by omega
      have hkn2 : ¬ (G.rules.length : Int) + 1 <= (G.rules.length : Int) := by omega
      have X5 := zUB (X3.out.went BZ.out)
      obtain ⟨x0, x1, x2, x3⟩ := X5.out.box
      have bl := boxed wr (.cells #[.slice az Z.length cz] 36)
      have BA := zUB (Gr.step BR.out bl)
      have EA := zUB (E.out.done.went bl)
      have ON := zUB (zGS 36 w3.heap.size wr.heap.size (.slice az Z.length cz) wr rfl (by omega))
      have RA := zUB (Sep.zAC LI.out.row fun g hg => BA.out.block g (World.ownsRow.lt LI.out.row g hg).2)
      have hsl2 : w3.heap.size <= (wr.alloc (.cells #[.slice az Z.length cz] 36)).heap.size := by simp; omega
      have SN := zUB (fun v' wb hown hg hv' => LI.out.snoc (w2 := wb) (v' := v') hsz BA.out EA.out hown hg hv')
      clear bl E
      go_wp2_with (at_builtin; refine zAF _ rfl _ _ 28 rfl w3.heap.size 36 i0 (.slice none 0 0) 1 24 Tryz.underlying28 hj0 hx0 hx1 hx2 rfl (by decide) (.slice a i c) i ((List.range i).map V) rfl RA.out w3.heap.size _ 1 [.slice az Z.length cz] rfl ON.out (by simp [Value.oneCell']) (by unfold maxLen; omega) (by omega) hsl2 ?_; intro v' wb hown hg hloc; have L2 := zUB (SN.out v' wb hown hg (hloc.imp id fun e g e2 => (by rw [e] at e2; injection e2 with e2; omega))); have GB := zUB hg; obtain ⟨a2, c2, rfl⟩ := Rw.zAH hown; clear hown hg hloc)
      go_roundw
      case rel =>
       refine ⟨i + 1, upd V i (.slice az Z.length cz), a2, c2, by go_num, by omega, rfl, L2.out, ?_⟩
       have b9 := B3.out.trans (BA.out.mono hsz)
       exact b9.trans ⟨GB.out.os, GB.out.tape, GB.out.output, GB.out.size, fun g hg => GB.out.block g (Nat.lt_of_lt_of_le hg b9.size) fun e => by
        have := (World.ownsRow.lt LI.out.row g e.symm).1
        omega⟩
      case measure => simp [intOf]; omega
   ·have hii : i = q.1.length := by omega
    subst hii
    go_wp2
    refine bodyPost_ret (v := .tuple #[.slice a q.1.length c, .int .i64 0]) (by simp [results, Tryz.results8, go_sem]) rfl ?_
    refine ⟨0, zCO G q, a, c, by rw [zBI], .all hv D hlen hB', ?_, ?_⟩
    ·refine AllV.reads (base := w3.heap.size) (c := c) ?_
     rw [zBI]
     exact LI.out.all
    ·exact X3.out.below.trans (B3.out.mono X3.out.below.size)
end Lk
namespace Lk
open Gr (Gram Sh gv GAt Bx zIr zAE)
open Im
open Au
open Classical in
theorem zIa {G : Gram} {er : Int} {Ys : List (List (Nat × List Nat))} (h : LookIs G er Ys) : Ys.length <= 1000000 /\ ∀ Y ∈ Ys, Y.length <= 1000000 /\ ∀ y ∈ Y, y.2.length <= 100000 := by
 cases h with
 | bad _ _ => exact ⟨Nat.zero_le _, fun Y hY => by cases hY⟩
 | all hv D hl _ =>
  have SM := Fi.zAs hv
  have hR := SM.r
  have hT := SM.t
  refine ⟨by rw [zBI]; omega, fun Y hY => ?_⟩
  unfold zCO at hY
  obtain ⟨i, _, rfl⟩ := List.mem_map.1 hY
  refine ⟨?_, fun y hy => ?_⟩
  ·unfold zAe
   rw [List.length_map]
   refine Nat.le_trans (List.length_filter_le _ _) ?_
   rw [List.length_range]
   omega
  ·unfold zAe at hy
   obtain ⟨k, _, rfl⟩ := List.mem_map.1 hy
   show (laL G _ i (endI G k)).length <= _
   unfold laL
   refine Nat.le_trans (List.length_filter_le _ _) ?_
   rw [List.length_range]
   omega
theorem zMU (h : Sh) (G : Gram) (w : World) (k : GAt h G w) (htab : Bt.Tab w) :
  Calls Tryz.prog 3 #[gv h G] w (Gr.Is (.bool true) w) := by
 have X0 := zUB (Bx.start h G w 25)
 have MU := zUB (fun w1 (b : Below w.heap.size w w1) => zIr h G w1 (k.went b))
 have LU := zUB (fun w1 (b : Below w.heap.size w w1) => zGY h G w1 (k.went b) (htab.below b htab.pos))
 have RL := zUB (fun w1 (b : Below w.heap.size w w1) => zNN h G w1 (k.went b))
 have AW := zUB (fun w1 (b : Below w.heap.size w w1) => zLP w1 (htab.below b htab.pos))
 clear k htab
 obtain ⟨x0, x1, x2, x3⟩ := X0.out.box
 unfold gv at *
 go_enter Tryz.func3, Tryz.ntmps3
 go_wp2_with fail
 refine (MU.out _ X0.out.below).mono ?_
 rintro e w1 ⟨n, rfl, hn, hb⟩
 have X1 := zUB (X0.out.went hb)
 clear hb MU hn x0 x1 x2 x3 X0
 obtain ⟨x0, x1, x2, x3⟩ := X1.out.box
 by_cases hn9 : 26 < n
 ·go_wp2_with (go_at_call 7; refine (AW.out _ X1.out.below).mono ?_; rintro e w2 ⟨rfl, hb⟩; have HB := zUB (Gr.step X1.out.below hb); clear hb)
  go_ret
  exact ⟨rfl, HB.out⟩
 go_wp2_with fail
 refine (RL.out _ X1.out.below).mono ?_
 rintro e w2 ⟨er, Ys, a, c, rfl, hI, hR, hb⟩
 have X2 := zUB (X1.out.went hb)
 have R2 := zUB hR
 clear hb hR x0 x1 x2 x3 X1 RL
 obtain ⟨x0, x1, x2, x3⟩ := X2.out.box
 go_wp2_with fail
 refine (LU.out _ X2.out.below).mono ?_
 rintro e w3 ⟨er2, Zs, b, d, rfl, hJ, hQ, hb⟩
 obtain ⟨rfl, rfl⟩ := hI.uniq hJ
 have X3 := zUB (X2.out.went hb)
 obtain ⟨h1, h2⟩ := zIa hI
 have SA := zUB (zIH Ys b a d c w3 hQ (R2.out.went hb) h1 h2)
 clear hb hQ x0 x1 x2 x3 X2 R2 LU hI hJ h1 h2
 go_wp2_with (first
  | (go_at_call 10; refine SA.out.mono ?_; rintro e w4 ⟨rfl, hb⟩; have X4 := zUB (X3.out.went hb); clear hb)
  | (go_at_call 7; refine (AW.out _ X4.out.below).mono ?_; rintro e w5 ⟨rfl, hb⟩; have HB := zUB (Gr.step X4.out.below hb); clear hb))
 go_ret
 exact ⟨zAE rfl, HB.out⟩
