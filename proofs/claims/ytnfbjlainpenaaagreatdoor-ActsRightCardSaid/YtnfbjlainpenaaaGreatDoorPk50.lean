/- A part of the proof. -/
import Derived.Test.YtnfbjlainpenaaaGreatDoorPk47
set_option maxHeartbeats 4000000
set_option maxRecDepth 100000
set_option linter.unusedVariables false
namespace Go.Proofs.YtnfbjlainpenaaaGreatDoor
open Go.RowKit Go.Maps
namespace Ac
open Gr (Gram cell_later boxed checkN)
open Au
open Go.Proofs.YtnfbjlainpenaaaGreatDoor.Sep
def tv (G : Gram) (q : Whole) (aR : Option Addr) (cR : Nat) (aA : Option Addr) (cA : Nat) (aG : Option Addr) (cG : Nat) : Array Value := #[.slice aR (G.rules.length + 1) cR, .int .i64 (G.terms.length : Int), .int .i64 (G.nons.length : Int), .slice aA q.1.length cA, .slice aG q.1.length cG]
structure TabD (G : Gram) (q : Whole) (aR aA aG : Option Addr) (w : World) : Prop where
 hv : checkN G = 0
 done : Done G q
 len : q.1.length <= 2000
 tab : TabR G q aR aA aG w
theorem TabD.went {G : Gram} {q : Whole} {aR aA aG : Option Addr} {w w' : World} (h : TabD G q aR aA aG w) (hb : Below w.heap.size w w') : TabD G q aR aA aG w' := ⟨h.hv, h.done, h.len, h.tab.went hb⟩
def TvC (G : Gram) (q : Whole) (aR : Option Addr) (cR : Nat) (aA : Option Addr) (cA : Nat) (aG : Option Addr) (cG : Nat) (b : Nat) (w : World) : Prop :=
 w.cell? ⟨b, 0, none⟩ = some (.slice aR (G.rules.length + 1) cR) /\ w.cell? ⟨b, 1, none⟩ = some (.int .i64 (G.terms.length : Int)) /\ w.cell? ⟨b, 2, none⟩ = some (.int .i64 (G.nons.length : Int)) /\ w.cell? ⟨b, 3, none⟩ = some (.slice aA q.1.length cA) /\ w.cell? ⟨b, 4, none⟩ = some (.slice aG q.1.length cG)
section
variable {G : Gram} {q : Whole} {aR : Option Addr} {cR : Nat} {aA : Option Addr} {cA : Nat} {aG : Option Addr} {cG b : Nat} {w w' : World}
theorem zOh {T : TypeId} (h : w.heap[b]? = some (.cells (tv G q aR cR aA cA aG cG) T (0, 0))) : TvC G q aR cR aA cA aG cG b w :=
 ⟨zAA h (k := 0) (by simp [tv]), zAA h (k := 1) (by simp [tv]), zAA h (k := 2) (by simp [tv]), zAA h (k := 3) (by simp [tv]), zAA h (k := 4) (by simp [tv])⟩
theorem TvC.went (h : TvC G q aR cR aA cA aG cG b w) (hb : Below w.heap.size w w') : TvC G q aR cR aA cA aG cG b w' := by
 obtain ⟨h0, h1, h2, h3, h4⟩ := h
 exact ⟨cell_later hb h0, cell_later hb h1, cell_later hb h2, cell_later hb h3, cell_later hb h4⟩
theorem zCY (w : World) (T : TypeId) : TvC G q aR cR aA cA aG cG w.heap.size (w.alloc (.cells (tv G q aR cR aA cA aG cG) T)) := zOh (World.alloc_heap_new _ _)
end
theorem zC3 (G : Gram) (q : Whole) (aR : Option Addr) (cR : Nat) (aA : Option Addr) (cA : Nat) (aG : Option Addr) (cG : Nat) (w : World) :
  Calls Tryz.prog 42 #[.agg (tv G q aR cR aA cA aG cG)] w (Gr.Is (.int .i64 (G.terms.length : Int)) w) := by
 have B := zSg (boxed w (.cells (tv G q aR cR aA cA aG cG) 35))
 obtain ⟨z0, z1, z2, z3, z4⟩ := zCY (G := G) (q := q) (aR := aR) (cR := cR) (aA := aA) (cA := cA) (aG := aG) (cG := cG) w 35
 have hm : max (G.terms.length : Int) 0 = (G.terms.length : Int) := by omega
 unfold tv at *
 generalize G.terms.length = n at *
 go_enter Tryz.func42, Tryz.ntmps42
 go_wp2
 go_ret
 exact ⟨rfl, B.out⟩
theorem zMy (G : Gram) (q : Whole) (aR aA aG : Option Addr) (cG : Nat) (w : World) (D : TabD G q aR aA aG w) (i k : Nat) (hi : i < q.1.length) (hk : k < G.nons.length) :
  Calls Tryz.prog 43 #[.slice aG q.1.length cG, .int .i64 (i : Int), .int .i64 (k : Int)] w (Gr.Is (.tuple #[.int .i64 (leads (q.2.getD i []) ((G.terms.length + 1 + k : Nat) : Int)), .bool true]) w) := by
 obtain ⟨b, c, rfl, h1, h2, _, _⟩ := D.tab.goto i hi
 have p0 := h2.cell (j := k) hk
 unfold tgtV at p0
 generalize leads (q.2.getD i []) ((G.terms.length + 1 + k : Nat) : Int) = x at *
 have hl := D.len
 have hn := (Fi.zAo D.hv).n
 clear h2 D
 generalize q.1.length = n at *
 generalize G.nons.length = m at *
 have hi0 : ¬ ((i : Int) < 0) := by omega
 have hi1 : ¬ ((n : Int) <= (i : Int)) := by omega
 have hi2 : (i : Int) < (n : Int) := by omega
 have hk0 : ¬ ((k : Int) < 0) := by omega
 have hk1 : ¬ ((m : Int) <= (k : Int)) := by omega
 have hk2 : (k : Int) < (m : Int) := by omega
 go_enter Tryz.func43, Tryz.ntmps43
 go_wp2
 exact bodyPost_ret (v := .tuple #[.int .i64 x, .bool true]) (by simp [results, Tryz.results43, go_sem]) rfl ⟨rfl, .refl _ _⟩
theorem zFY {G : Gram} {q : Whole} {i t : Nat} : rowV G q i (t * 2) = .int .i64 (fstA G q i t).1 /\ rowV G q i (t * 2 + 1) = .int .i64 (fstA G q i t).2 := by
 unfold rowV
 rw [if_pos (by omega), if_neg (by omega), show t * 2 / 2 = t by omega, show (t * 2 + 1) / 2 = t by omega]
 exact ⟨rfl, rfl⟩
theorem zMx (G : Gram) (q : Whole) (aR aA aG : Option Addr) (cA : Nat) (w : World) (D : TabD G q aR aA aG w) (i t : Nat) (hi : i < q.1.length) (ht : t < G.terms.length + 1) :
  Calls Tryz.prog 44 #[.slice aA q.1.length cA, .int .i64 (i : Int), .int .i64 (t : Int)] w (Gr.Is (.tuple #[.agg #[.int .i64 (fstA G q i t).1, .int .i64 (fstA G q i t).2], .bool true]) w) := by
 obtain ⟨b, c, rfl, h1, h2, _, _⟩ := D.tab.acts i hi
 have p0 := h2.cell (j := t * 2) (by omega)
 have p1 := h2.cell (j := t * 2 + 1) (by omega)
 rw [zFY.1] at p0
 rw [zFY.2] at p1
 generalize fstA G q i t = x at *
 obtain ⟨x1, x2⟩ := x
 have hl := D.len
 have hn := (Fi.zAo D.hv).t
 clear h2 D
 dsimp only at *
 generalize q.1.length = n at *
 generalize hm : G.terms.length + 1 = m at *
 have hi0 : ¬ ((i : Int) < 0) := by omega
 have hi1 : ¬ ((n : Int) <= (i : Int)) := by omega
 have hi2 : (i : Int) < (n : Int) := by omega
 have hk0 : ¬ ((t : Int) < 0) := by omega
 have hk1 : ¬ ((m : Int) <= (t : Int)) := by omega
 have hk2 : (t : Int) < (m : Int) := by omega
 have B := zSg (boxed w (.cells #[.int .i64 x1, .int .i64 x2] 53))
 have b0 := boxed w (.cells #[.int .i64 0, .int .i64 0] 53)
 replace h1 := cell_later b0 h1
 replace p0 := cell_later b0 p0
 replace p1 := cell_later b0 p1
 clear hm hn b0
 go_enter Tryz.func44, Tryz.ntmps44
 go_wp2
 exact bodyPost_ret (v := .tuple #[.agg #[.int .i64 x1, .int .i64 x2], .bool true]) (by simp [results, Tryz.results44, go_sem]) rfl ⟨rfl, B.out⟩
theorem zJj (G : Gram) (q : Whole) (aR : Option Addr) (cR : Nat) (aA : Option Addr) (cA : Nat) (aG : Option Addr) (cG : Nat) (w : World) (D : TabD G q aR aA aG w) (i t : Nat) (hi : i < q.1.length) (ht : t < G.terms.length + 1) :
  Calls Tryz.prog 19 #[.agg (tv G q aR cR aA cA aG cG), .int .i64 (i : Int), .int .i64 (t : Int)] w (Gr.Is (.agg #[.int .i64 (fstA G q i t).1, .int .i64 (fstA G q i t).2]) w) := by
 have TE := zSg (fun w1 => zC3 G q aR cR aA cA aG cG w1)
 have EN := zSg (fun w1 (b : Below w.heap.size w w1) => zMx G q aR aA aG cA w1 (D.went b) i t hi ht)
 have hn := (Fi.zAo D.hv).t
 generalize fstA G q i t = x at *
 obtain ⟨x1, x2⟩ := x
 have b1 := boxed w (.cells (tv G q aR cR aA cA aG cG) 35)
 have b2 := boxed (w.alloc (.cells (tv G q aR cR aA cA aG cG) 35)) (.cells #[.int .i64 0, .int .i64 0] 53)
 have B2 := zSg (Gr.step b1 b2)
 have Z := zSg ((zCY (G := G) (q := q) (aR := aR) (cR := cR) (aA := aA) (cA := cA) (aG := aG) (cG := cG) w 35).went b2)
 have Y := zSg (World.alloc_heap_new (w.alloc (.cells (tv G q aR cR aA cA aG cG) 35)) (.cells #[.int .i64 0, .int .i64 0] 53))
 rw [World.size_alloc] at Y
 have ht1 : ¬ ((G.terms.length : Int) < (t : Int)) := by omega
 clear D b1 b2
 obtain ⟨z0, z1, z2, z3, z4⟩ := Z.out
 unfold tv at *
 go_enter Tryz.func19, Tryz.ntmps19
 go_wp2_with fail
 generalize (w.alloc (.cells #[.slice aR (G.rules.length + 1) cR, .int .i64 (G.terms.length : Int), .int .i64 (G.nons.length : Int), .slice aA q.1.length cA, .slice aG q.1.length cG] 35)).alloc (.cells #[.int .i64 0, .int .i64 0] 53) = w2 at *
 refine (TE.out _).mono ?_
 rintro e w3 ⟨rfl, hb3⟩
 have B3 := zSg (Gr.step B2.out hb3)
 have Z3 := zSg (Z.out.went hb3)
 have Y3 := zSg ((hb3.block _ (Array.getElem?_eq_some_iff.1 Y.out).1).trans Y.out)
 clear z0 z1 z2 z3 z4 hb3 Y Z B2
 obtain ⟨z0, z1, z2, z3, z4⟩ := Z3.out
 go_wp2_with fail
 refine (EN.out _ B3.out).mono ?_
 rintro e w4 ⟨rfl, hb4⟩
 have B4 := zSg (Gr.step B3.out hb4)
 have Y4 := (hb4.block _ (Array.getElem?_eq_some_iff.1 Y3.out).1).trans Y3.out
 have y0 := zAA Y4 (k := 0) (by simp)
 have y1 := zAA Y4 (k := 1) (by simp)
 have f0 := zAM (k := 0) Y4
 have f1 := zAM (k := 1) Y4
 have hlt : w.heap.size + 1 < w4.heap.size := (Array.getElem?_eq_some_iff.1 Y4).1
 have b5 := boxed ((w4.setCell ⟨w.heap.size + 1, 0, none⟩ (.int .i64 x1)).setCell ⟨w.heap.size + 1, 1, none⟩ (.int .i64 x2)) (.cells #[.int .i64 x1, .int .i64 x2] 53)
 have BE := zSg (show Below w.heap.size w (((w4.setCell ⟨w.heap.size + 1, 0, none⟩ (.int .i64 x1)).setCell ⟨w.heap.size + 1, 1, none⟩ (.int .i64 x2)).alloc (.cells #[.int .i64 x1, .int .i64 x2] 53)) from
  Gr.step ((B4.out.setCell (Nat.le_succ _) _).setCell (Nat.le_succ _) _) b5)
 have Y5 := Rg.zAP (k := 1) (Rg.zAP (k := 0) Y4 (.int .i64 x1)) (.int .i64 x2)
 have Y6 := (b5.block _ (Array.getElem?_eq_some_iff.1 Y5).1).trans Y5
 have r0 := zAA Y6 (k := 0) (by simp)
 have r1 := zAA Y6 (k := 1) (by simp)
 simp only [Array.setIfInBounds, List.set_toArray] at r0 r1
 clear z0 z1 z2 z3 z4 hb4 Y3 Z3 B3 Y4 Y5 Y6 b5
 dsimp only at *
 go_wp2
 exact bodyPost_ret (v := .agg #[.int .i64 x1, .int .i64 x2]) (by simp [results, Tryz.results19, go_sem, r0, r1]) rfl ⟨rfl, BE.out⟩
def OkA (G : Gram) (q : Whole) (x1 x2 : Int) : Prop := (x1, x2) = ((0 : Int), (0 : Int)) \/ (∃ n : Nat, n < q.1.length /\ (x1, x2) = ((1 : Int), (n : Int))) \/ (x1, x2) = ((3 : Int), (0 : Int)) \/ ∃ k : Nat, k < G.rules.length /\ (x1, x2) = ((2 : Int), (k : Int))
theorem zGS (G : Gram) (q : Whole) (aR : Option Addr) (cR : Nat) (aA : Option Addr) (cA : Nat) (aG : Option Addr) (cG : Nat) (w : World) (hl : q.1.length <= 2000) (hr : G.rules.length <= 300) (x1 x2 : Int) (hx : OkA G q x1 x2) :
  Calls Tryz.prog 70 #[.agg (tv G q aR cR aA cA aG cG), .agg #[.int .i64 x1, .int .i64 x2]] w (Gr.Is (.bool true) w) := by
 have b1 := boxed w (.cells (tv G q aR cR aA cA aG cG) 35)
 have b2 := boxed (w.alloc (.cells (tv G q aR cR aA cA aG cG) 35)) (.cells #[.int .i64 x1, .int .i64 x2] 53)
 have B2 := zSg (Gr.step b1 b2)
 obtain ⟨z0, z1, z2, z3, z4⟩ := (zCY (G := G) (q := q) (aR := aR) (cR := cR) (aA := aA) (cA := cA) (aG := aG) (cG := cG) w 35).went b2
 have Y := World.alloc_heap_new (w.alloc (.cells (tv G q aR cR aA cA aG cG) 35)) (.cells #[.int .i64 x1, .int .i64 x2] 53)
 rw [World.size_alloc] at Y
 have y0 := zAA Y (k := 0) (by simp)
 have y1 := zAA Y (k := 1) (by simp)
 have hw : IntKind.i64.wrap ((G.rules.length : Int) + 1 - 1) = (G.rules.length : Int) := by rw [IntKind.wrap_i64]; omega
 clear b1 b2 Y
 unfold tv at *
 rcases hx with h | ⟨n, hn, h⟩ | h | ⟨n, hn, h⟩
 ·simp only [Prod.mk.injEq] at h
  obtain ⟨rfl, rfl⟩ := h
  go_enter Tryz.func70, Tryz.ntmps70
  go_wp2
  go_ret
  exact ⟨rfl, B2.out⟩
 ·simp only [Prod.mk.injEq] at h
  obtain ⟨rfl, rfl⟩ := h
  have h0 : (0 : Int) <= (n : Int) := by omega
  have h1 : (n : Int) < (q.1.length : Int) := by omega
  go_enter Tryz.func70, Tryz.ntmps70
  go_wp2
  go_ret
  exact ⟨rfl, B2.out⟩
 ·simp only [Prod.mk.injEq] at h
  obtain ⟨rfl, rfl⟩ := h
  go_enter Tryz.func70, Tryz.ntmps70
  go_wp2
  go_ret
  exact ⟨rfl, B2.out⟩
 ·simp only [Prod.mk.injEq] at h
  obtain ⟨rfl, rfl⟩ := h
  have h0 : (0 : Int) <= (n : Int) := by omega
  have h1 : (n : Int) < (G.rules.length : Int) := by omega
  go_enter Tryz.func70, Tryz.ntmps70
  go_wp2
  go_ret
  exact ⟨rfl, B2.out⟩
end Ac
namespace Ac
open Gr (Gram boxed drawn zAE top)
open Au
open Go.Proofs.YtnfbjlainpenaaaGreatDoor.Sep
theorem zFW (G : Gram) (q : Whole) (aR : Option Addr) (cR : Nat) (aA : Option Addr) (cA : Nat) (aG : Option Addr) (cG : Nat) (w : World) (D : TabD G q aR aA aG w) :
  Calls Tryz.prog 39 #[.agg (tv G q aR cR aA cA aG cG)] w (Gr.Is (.bool true) w) := by
 have hsm := Fi.zAo D.hv
 have ht := hsm.t
 have hr := hsm.r
 have hn := hsm.n
 have hl := D.len
 have B1 := zSg (boxed w (.cells (tv G q aR cR aA cA aG cG) 35))
 have Z1 := zSg (zCY (G := G) (q := q) (aR := aR) (cR := cR) (aA := aA) (cA := cA) (aG := aG) (cG := cG) w 35)
 have RA := zSg (fun w1 (x1 x2 : Int) (h : OkA G q x1 x2) => zGS G q aR cR aA cA aG cG w1 hl hr x1 x2 h)
 have DD := zSg (fun w1 (b : Below w.heap.size w w1) => D.went b)
 have OK := zSg (fun i (hi : i < q.1.length) t => zKP D.done hi t)
 clear D
 obtain ⟨z0, z1, z2, z3, z4⟩ := Z1.out
 unfold tv at *
 go_enter Tryz.func39, Tryz.ntmps39
 go_wp2_with fail
 generalize w.alloc (.cells #[.slice aR (G.rules.length + 1) cR, .int .i64 (G.terms.length : Int), .int .i64 (G.nons.length : Int), .slice aA q.1.length cA, .slice aG q.1.length cG] 35) = w2 at *
 clear z0 z1 z2 z3 z4
 go_loopw [10] (fun v wr => ∃ i : Nat, v = .int .i64 (i : Int) /\ i <= q.1.length /\ Below w2.heap.size w2 wr) (fun v _ => q.1.length - (intOf v).toNat)
 case atStart => exact ⟨0, rfl, Nat.zero_le _, .refl _ _⟩
 case round =>
  obtain ⟨i, rfl, hi, hB⟩ := hrel
  have B := zSg hB
  clear hB
  by_cases hlt : i < q.1.length
  ·have BW := zSg (Gr.step B1.out B.out)
   obtain ⟨b, c, rfl, p0, p1, _, _⟩ := (DD.out wr BW.out).tab.acts i hlt
   obtain ⟨z0, z1, z2, z3, z4⟩ := Z1.out.went B.out
   have hw : IntKind.i64.wrap ((G.terms.length : Int) + 1 - 1) = (G.terms.length : Int) := by rw [IntKind.wrap_i64]; omega
   have hil : (i : Int) < (q.1.length : Int) := by omega
   have PP := zSg p1
   have OKi := zSg (fun t => OK.out i hlt t)
   clear p1
   go_wp2_with fail
   generalize wr = w5 at *
   clear z0 z1 z2 z3 z4 p0
   go_loopw [22] (fun v wz => ∃ t : Nat, v = .int .i64 (t : Int) /\ t <= G.terms.length + 1 /\ Below w5.heap.size w5 wz) (fun v _ => G.terms.length + 1 - (intOf v).toNat)
   case atStart => exact ⟨0, rfl, Nat.zero_le _, .refl _ _⟩
   case round =>
    obtain ⟨t, rfl, htl, hB2⟩ := hrel
    have K := zSg hB2
    clear hB2
    by_cases hlt2 : t < G.terms.length + 1
    ·have p2 := PP.out.went K.out
     have p0 := p2.cell (j := t * 2) (by omega)
     have p1 := p2.cell (j := t * 2 + 1) (by omega)
     rw [zFY.1] at p0
     rw [zFY.2] at p1
     have ok := OKi.out t
     generalize fstA G q i t = x at *
     obtain ⟨x1, x2⟩ := x
     dsimp only at p0 p1
     have hx : OkA G q x1 x2 := ok
     have BN := zSg (Gr.step K.out (boxed wr (.cells #[.int .i64 x1, .int .i64 x2] 53)))
     obtain ⟨z0, z1, z2, z3, z4⟩ := Z1.out.went (Gr.step B.out BN.out)
     have htl2 : (t : Int) < (G.terms.length : Int) + 1 := by omega
     clear ok p2
     go_wp2_with (go_at_call 70; refine (RA.out _ x1 x2 hx).mono ?_; rintro e w6 ⟨rfl, hb6⟩; have K6 := zSg (Gr.step BN.out hb6); clear hb6)
     go_roundw
     case rel => exact ⟨t + 1, by go_num, by omega, K6.out⟩
     case measure => first | (simp [intOf]; omega) | omega
    ·obtain rfl : t = G.terms.length + 1 := by omega
     go_wp2_with fail
     go_roundw
     case rel => exact ⟨i + 1, by go_num, by omega, Gr.step B.out K.out⟩
     case measure => first | (simp [intOf]; omega) | omega
  ·obtain rfl : i = q.1.length := by omega
   go_wp2
   go_ret
   exact ⟨rfl, Gr.step B1.out B.out⟩
theorem zDW (G : Gram) (q : Whole) (aR : Option Addr) (cR : Nat) (aA : Option Addr) (cA : Nat) (aG : Option Addr) (cG : Nat) (w : World) (D : TabD G q aR aA aG w) :
  Calls Tryz.prog 40 #[.agg (tv G q aR cR aA cA aG cG)] w (Gr.Is (.bool true) w) := by
 have hsm := Fi.zAo D.hv
 have ht := hsm.t
 have hr := hsm.r
 have hn := hsm.n
 have hl := D.len
 have B1 := zSg (boxed w (.cells (tv G q aR cR aA cA aG cG) 35))
 have Z1 := zSg (zCY (G := G) (q := q) (aR := aR) (cR := cR) (aA := aA) (cA := cA) (aG := aG) (cG := cG) w 35)
 have DD := zSg (fun w1 (b : Below w.heap.size w w1) => D.went b)
 have OK := zSg (fun i (hi : i < q.1.length) s => zDI D.done hi s)
 clear D
 obtain ⟨z0, z1, z2, z3, z4⟩ := Z1.out
 unfold tv at *
 go_enter Tryz.func40, Tryz.ntmps40
 go_wp2_with fail
 generalize w.alloc (.cells #[.slice aR (G.rules.length + 1) cR, .int .i64 (G.terms.length : Int), .int .i64 (G.nons.length : Int), .slice aA q.1.length cA, .slice aG q.1.length cG] 35) = w2 at *
 clear z0 z1 z2 z3 z4
 go_loopw [10] (fun v wr => ∃ i : Nat, v = .int .i64 (i : Int) /\ i <= q.1.length /\ Below w2.heap.size w2 wr) (fun v _ => q.1.length - (intOf v).toNat)
 case atStart => exact ⟨0, rfl, Nat.zero_le _, .refl _ _⟩
 case round =>
  obtain ⟨i, rfl, hi, hB⟩ := hrel
  have B := zSg hB
  clear hB
  by_cases hlt : i < q.1.length
  ·have BW := zSg (Gr.step B1.out B.out)
   obtain ⟨b, c, rfl, p0, p1, _, _⟩ := (DD.out wr BW.out).tab.goto i hlt
   obtain ⟨z0, z1, z2, z3, z4⟩ := Z1.out.went B.out
   have hil : (i : Int) < (q.1.length : Int) := by omega
   have PP := zSg p1
   have OKi := zSg (fun s => OK.out i hlt s)
   clear p1
   go_wp2_with fail
   generalize wr = w5 at *
   clear z0 z1 z2 z3 z4 p0
   go_loopw [21] (fun v wz => ∃ t : Nat, v = .int .i64 (t : Int) /\ t <= G.nons.length /\ Below w5.heap.size w5 wz) (fun v _ => G.nons.length - (intOf v).toNat)
   case atStart => exact ⟨0, rfl, Nat.zero_le _, .refl _ _⟩
   case round =>
    obtain ⟨t, rfl, htl, hB2⟩ := hrel
    have K := zSg hB2
    clear hB2
    by_cases hlt2 : t < G.nons.length
    ·obtain ⟨z0, z1, z2, z3, z4⟩ := Z1.out.went (Gr.step B.out K.out)
     have p0 := (PP.out.went K.out).cell (j := t) hlt2
     unfold tgtV at p0
     have ok := OKi.out ((G.terms.length + 1 + t : Nat) : Int)
     generalize leads (q.2.getD i []) ((G.terms.length + 1 + t : Nat) : Int) = x at *
     have htl2 : (t : Int) < (G.nons.length : Int) := by omega
     rcases ok with rfl | ⟨n, rfl, hn2, _⟩
     ·have h0 : ¬ ((q.1.length : Int) <= (-1 : Int)) := by omega
      go_wp2_with fail
      go_roundw
      case rel => exact ⟨t + 1, by go_num, by omega, K.out⟩
      case measure => first | (simp [intOf]; omega) | omega
     ·have h0 : ¬ ((n : Int) < (-1 : Int)) := by omega
      have h1 : ¬ ((q.1.length : Int) <= (n : Int)) := by omega
      have h2 : ¬ (q.1.length <= n) := by omega
      go_wp2_with fail
      go_roundw
      case rel => exact ⟨t + 1, by go_num, by omega, K.out⟩
      case measure => first | (simp [intOf]; omega) | omega
    ·obtain rfl : t = G.nons.length := by omega
     go_wp2_with fail
     go_roundw
     case rel => exact ⟨i + 1, by go_num, by omega, Gr.step B.out K.out⟩
     case measure => first | (simp [intOf]; omega) | omega
  ·obtain rfl : i = q.1.length := by omega
   go_wp2
   go_ret
   exact ⟨rfl, Gr.step B1.out B.out⟩
theorem zEY (G : Gram) (q : Whole) (aR : Option Addr) (cR : Nat) (aA : Option Addr) (cA : Nat) (aG : Option Addr) (cG : Nat) (w : World) (D : TabD G q aR aA aG w) (hcp : G.rules.length + 1 <= cR) :
  Calls Tryz.prog 41 #[.agg (tv G q aR cR aA cA aG cG)] w (Gr.Is (.bool true) w) := by
 have hsm := Fi.zAo D.hv
 have ht := hsm.t
 have hr := hsm.r
 have hn := hsm.n
 have hl := D.len
 have B1 := zSg (boxed w (.cells (tv G q aR cR aA cA aG cG) 35))
 have Z1 := zSg (zCY (G := G) (q := q) (aR := aR) (cR := cR) (aA := aA) (cA := cA) (aG := aG) (cG := cG) w 35)
 obtain ⟨bR, _, _, rfl, _⟩ := D.tab.rules 0 (by omega)
 have DD := zSg (fun w1 (b : Below w.heap.size w w1) => D.went b)
 have OK := zSg (fun k (hk : k <= G.rules.length) => Lk.zA3 D.hv hk)
 have hw : IntKind.i64.wrap ((G.rules.length : Int) + 1 - 1) = (G.rules.length : Int) := by rw [IntKind.wrap_i64]; omega
 have hc1 : G.rules.length <= cR := by omega
 have hc2 : (G.rules.length : Int) <= (cR : Int) := by omega
 have htop : (top G : Int) = (G.terms.length : Int) + (G.nons.length : Int) := by unfold top; omega
 clear D
 obtain ⟨z0, z1, z2, z3, z4⟩ := Z1.out
 unfold tv at *
 go_enter Tryz.func41, Tryz.ntmps41
 go_wp2_with fail
 generalize w.alloc (.cells #[.slice (some ⟨bR, 0, none⟩) (G.rules.length + 1) cR, .int .i64 (G.terms.length : Int), .int .i64 (G.nons.length : Int), .slice aA q.1.length cA, .slice aG q.1.length cG] 35) = w2 at *
 clear z0 z1 z2 z3 z4
 go_loopw [13] (fun v wr => ∃ i : Nat, v = .int .i64 (i : Int) /\ i <= G.rules.length /\ Below w2.heap.size w2 wr) (fun v _ => G.rules.length - (intOf v).toNat)
 case atStart => exact ⟨0, rfl, Nat.zero_le _, .refl _ _⟩
 case round =>
  obtain ⟨i, rfl, hi, hB⟩ := hrel
  have B := zSg hB
  clear hB
  by_cases hlt : i < G.rules.length
  ·have BW := zSg (Gr.step B1.out B.out)
   obtain ⟨b, a3, c3, e, p0, p1, _, _, _⟩ := (DD.out wr BW.out).tab.rules i (by omega)
   simp only [Option.some.injEq, Addr.mk.injEq, and_true] at e
   subst e
   have hil : (i : Int) < (G.rules.length : Int) := by omega
   have ok := OK.out i (by omega)
   generalize zAE G (i : Int) = r at *
   obtain ⟨x, l⟩ := r
   dsimp only at p0 p1 ok
   obtain ⟨h1, h2⟩ : (G.terms.length : Int) < x /\ x <= (top G : Int) := by
    rcases ok with ⟨e, _⟩ | ⟨_, e⟩
    ·omega
    ·exact e
   rw [htop] at h2
   have h3 : ¬ (x <= (G.terms.length : Int)) := by omega
   have h4 : IntKind.i64.wrap (x - (G.terms.length : Int)) = x - (G.terms.length : Int) := by rw [IntKind.wrap_i64]; omega
   have h5 : ¬ ((G.nons.length : Int) < x - (G.terms.length : Int)) := by omega
   have BN := zSg (Gr.step B.out (boxed wr (.cells #[.int .i64 x, .slice a3 l.length c3] 57)))
   obtain ⟨z0, z1, z2, z3, z4⟩ := Z1.out.went BN.out
   clear ok h1 h2
   go_wp2_with fail
   go_roundw
   case rel => exact ⟨i + 1, by go_num, by omega, BN.out⟩
   case measure => first | (simp [intOf]; omega) | omega
  ·obtain rfl : i = G.rules.length := by omega
   go_wp2
   go_ret
   exact ⟨rfl, Gr.step B1.out B.out⟩
theorem zGT (G : Gram) (q : Whole) (aR : Option Addr) (cR : Nat) (aA : Option Addr) (cA : Nat) (aG : Option Addr) (cG : Nat) (w : World) (D : TabD G q aR aA aG w) (hcp : G.rules.length + 1 <= cR) :
  Calls Tryz.prog 14 #[.agg (tv G q aR cR aA cA aG cG)] w (Gr.Is (.bool true) w) := by
 have h0 : 0 < q.1.length := D.done.ok.pos
 have B1 := zSg (boxed w (.cells (tv G q aR cR aA cA aG cG) 35))
 have Z1 := zSg (zCY (G := G) (q := q) (aR := aR) (cR := cR) (aA := aA) (cA := cA) (aG := aG) (cG := cG) w 35)
 have R1 := zSg (fun w1 (b : Below w.heap.size w w1) => zFW G q aR cR aA cA aG cG w1 (D.went b))
 have R2 := zSg (fun w1 (b : Below w.heap.size w w1) => zDW G q aR cR aA cA aG cG w1 (D.went b))
 have R3 := zSg (fun w1 (b : Below w.heap.size w w1) => zEY G q aR cR aA cA aG cG w1 (D.went b) hcp)
 have hl := D.len
 have g0 : ((G.rules.length : Int) + 1 == 0) = false := by rw [beq_eq_false_iff_ne]; omega
 have g1 : ((q.1.length : Int) == 0) = false := by rw [beq_eq_false_iff_ne]; omega
 have g3 : ¬ ((G.terms.length : Int) < 0) := by omega
 have g4 : ¬ ((G.nons.length : Int) < 0) := by omega
 clear D
 obtain ⟨z0, z1, z2, z3, z4⟩ := Z1.out
 unfold tv at *
 go_enter Tryz.func14, Tryz.ntmps14
 go_wp2_with fail
 generalize w.alloc (.cells #[.slice aR (G.rules.length + 1) cR, .int .i64 (G.terms.length : Int), .int .i64 (G.nons.length : Int), .slice aA q.1.length cA, .slice aG q.1.length cG] 35) = w2 at *
 refine (R1.out _ B1.out).mono ?_
 rintro e w3 ⟨rfl, hb3⟩
 have B3 := zSg (Gr.step B1.out hb3)
 have Z3 := zSg (Z1.out.went hb3)
 clear z0 z1 z2 z3 z4 hb3 Z1 B1 R1
 obtain ⟨z0, z1, z2, z3, z4⟩ := Z3.out
 go_wp2_with fail
 refine (R2.out _ B3.out).mono ?_
 rintro e w4 ⟨rfl, hb4⟩
 have B4 := zSg (Gr.step B3.out hb4)
 have Z4 := zSg (Z3.out.went hb4)
 clear z0 z1 z2 z3 z4 hb4 Z3 B3 R2
 obtain ⟨z0, z1, z2, z3, z4⟩ := Z4.out
 go_wp2_with fail
 refine (R3.out _ B4.out).mono ?_
 rintro e w5 ⟨rfl, hb5⟩
 have B5 := zSg (Gr.step B4.out hb5)
 clear hb5
 go_wp2
 go_ret
 exact ⟨rfl, B5.out⟩
theorem zGa (G : Gram) (q : Whole) (aR : Option Addr) (cR : Nat) (aA : Option Addr) (cA : Nat) (aG : Option Addr) (cG : Nat) (w : World) (D : TabD G q aR aA aG w) (i k : Nat) (hi : i < q.1.length) (hk : k < G.nons.length) :
  Calls Tryz.prog 18 #[.agg (tv G q aR cR aA cA aG cG), .int .i64 (i : Int), .int .i64 ((G.terms.length + 1 + k : Nat) : Int)] w (Gr.Is (.int .i64 (leads (q.2.getD i []) ((G.terms.length + 1 + k : Nat) : Int))) w) := by
 have B1 := zSg (boxed w (.cells (tv G q aR cR aA cA aG cG) 35))
 have Z1 := zSg (zCY (G := G) (q := q) (aR := aR) (cR := cR) (aA := aA) (cA := cA) (aG := aG) (cG := cG) w 35)
 have TE := zSg (fun w1 => zC3 G q aR cR aA cA aG cG w1)
 have EN := zSg (fun w1 (b : Below w.heap.size w w1) => zMy G q aR aA aG cG w1 (D.went b) i k hi hk)
 have hsm := Fi.zAo D.hv
 have ht := hsm.t
 have hn := hsm.n
 have hl := D.len
 have ok := zDI D.done hi ((G.terms.length + 1 + k : Nat) : Int)
 generalize leads (q.2.getD i []) ((G.terms.length + 1 + k : Nat) : Int) = x at *
 generalize hs : G.terms.length + 1 + k = s at *
 have e1 : ¬ ((s : Int) <= (G.terms.length : Int)) := by omega
 have e2 : IntKind.i64.wrap ((s : Int) - (G.terms.length : Int)) = (s : Int) - (G.terms.length : Int) := by rw [IntKind.wrap_i64]; omega
 have e3 : ¬ ((G.nons.length : Int) < (s : Int) - (G.terms.length : Int)) := by omega
 have e4 : IntKind.i64.wrap ((s : Int) - (G.terms.length : Int) - 1) = (k : Int) := by rw [IntKind.wrap_i64]; omega
 have e5 : ¬ (s <= G.terms.length) := by omega
 clear D hs
 have HQ := zSg (fun w' (b : Below (w.alloc (.cells (tv G q aR cR aA cA aG cG) 35)).heap.size (w.alloc (.cells (tv G q aR cR aA cA aG cG) 35)) w') => (show w'.cell? ⟨w.heap.size, 0, none⟩ = some (.slice aR (G.rules.length + 1) cR) /\ w'.cell? ⟨w.heap.size, 1, none⟩ = some (.int .i64 (G.terms.length : Int)) /\ w'.cell? ⟨w.heap.size, 2, none⟩ = some (.int .i64 (G.nons.length : Int)) /\ w'.cell? ⟨w.heap.size, 3, none⟩ = some (.slice aA q.1.length cA) /\ w'.cell? ⟨w.heap.size, 4, none⟩ = some (.slice aG q.1.length cG) from Z1.out.went b))
 unfold tv at *
 go_enter Tryz.func18, Tryz.ntmps18
 go_wp2_with fail
 generalize w.alloc (.cells #[.slice aR (G.rules.length + 1) cR, .int .i64 (G.terms.length : Int), .int .i64 (G.nons.length : Int), .slice aA q.1.length cA, .slice aG q.1.length cG] 35) = w2 at *
 have kA : Below w2.heap.size w2 w2.drew := drawn w2
 obtain ⟨z0, z1, z2, z3, z4⟩ := Z1.out
 go_region_held3 (fun w' => w'.cell? ⟨w.heap.size, 0, none⟩ = some (.slice aR (G.rules.length + 1) cR) /\ w'.cell? ⟨w.heap.size, 1, none⟩ = some (.int .i64 (G.terms.length : Int)) /\ w'.cell? ⟨w.heap.size, 2, none⟩ = some (.int .i64 (G.nons.length : Int)) /\ w'.cell? ⟨w.heap.size, 3, none⟩ = some (.slice aA q.1.length cA) /\ w'.cell? ⟨w.heap.size, 4, none⟩ = some (.slice aG q.1.length cG))
  (exact HQ.out _ (by assumption))
  (first
   | (go_at_call 42; (with_reducible refine (TE.out _).mono ?_); rintro e w5 ⟨rfl, hb5⟩; have kB : Below w2.heap.size w2 w5 := Gr.step (by assumption) hb5; clear hb5)
   | fail)
 go_wp2_with fail
 have kC : Below w2.heap.size w2 _ := Gr.step kB (drawn _)
 go_region_held3 (fun w' => w'.cell? ⟨w.heap.size, 0, none⟩ = some (.slice aR (G.rules.length + 1) cR) /\ w'.cell? ⟨w.heap.size, 1, none⟩ = some (.int .i64 (G.terms.length : Int)) /\ w'.cell? ⟨w.heap.size, 2, none⟩ = some (.int .i64 (G.nons.length : Int)) /\ w'.cell? ⟨w.heap.size, 3, none⟩ = some (.slice aA q.1.length cA) /\ w'.cell? ⟨w.heap.size, 4, none⟩ = some (.slice aG q.1.length cG))
  (exact HQ.out _ (by assumption))
  (first
   | (go_at_call 42; (with_reducible refine (TE.out _).mono ?_); rintro e w6 ⟨rfl, hb6⟩; have kD : Below w2.heap.size w2 w6 := Gr.step (by assumption) hb6; clear hb6)
   | (go_at_call 43; (with_reducible refine (EN.out _ (Gr.step B1.out (by assumption))).mono ?_); rintro e w7 ⟨rfl, hb7⟩; have kE : Below w2.heap.size w2 w7 := Gr.step (by assumption) hb7; clear hb7)
   | fail)
 obtain ⟨z0, z1, z2, z3, z4⟩ := HQ.out _ kE
 have hm : max (q.1.length : Int) (q.1.length : Int) = (q.1.length : Int) := by omega
 have BE := zSg (Gr.step B1.out kE)
 rcases ok with rfl | ⟨n, rfl, hn2, _⟩
 ·go_wp2_with fail
  go_ret
  exact ⟨rfl, BE.out⟩
 ·have h0 : ¬ ((n : Int) < 0) := by omega
  have h1 : ¬ ((q.1.length : Int) <= (n : Int)) := by omega
  have h2 : ¬ (q.1.length <= n) := by omega
  go_wp2_with fail
  go_ret
  exact ⟨rfl, BE.out⟩
