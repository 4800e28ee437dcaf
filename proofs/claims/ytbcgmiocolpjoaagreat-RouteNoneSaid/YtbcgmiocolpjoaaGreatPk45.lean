/- A part of the proof. -/
import Derived.Test.YtbcgmiocolpjoaaGreatPk43
import Derived.Test.YtbcgmiocolpjoaaGreatPk44
set_option maxHeartbeats 4000000
set_option maxRecDepth 100000
set_option linter.unusedVariables false
namespace Go.Proofs.YtbcgmiocolpjoaaGreat
namespace Ro
open Go.RowKit Go.Maps
open Gr (Is cell_later zAB boxed)
open Le (GA)
open Au
structure Cx (W : World) (q : Nat) (s t a b c d : Int) (w : World) : Prop where
 below : Below W.heap.size W w
 c0 : w.cell? ⟨q, 0, none⟩ = some (.int .i64 s)
 c1 : w.cell? ⟨q, 1, none⟩ = some (.int .i64 t)
 c2 : w.cell? ⟨q, 2, none⟩ = some (.int .i64 a)
 c3 : w.cell? ⟨q, 3, none⟩ = some (.int .i64 b)
 c4 : w.cell? ⟨q, 4, none⟩ = some (.int .i64 c)
 c5 : w.cell? ⟨q, 5, none⟩ = some (.int .i64 d)
theorem Cx.went {W : World} {q : Nat} {s t a b c d : Int} {w w' : World} (k : Cx W q s t a b c d w) (hb : Below w.heap.size w w') : Cx W q s t a b c d w' :=
 ⟨Gr.step k.below hb, cell_later hb k.c0, cell_later hb k.c1, cell_later hb k.c2, cell_later hb k.c3, cell_later hb k.c4, cell_later hb k.c5⟩
theorem Cx.start {W : World} (s t a b c d : Int) (w : World) (T : TypeId) (h : Below W.heap.size W w) : Cx W w.heap.size s t a b c d (w.alloc (.cells #[.int .i64 s, .int .i64 t, .int .i64 a, .int .i64 b, .int .i64 c, .int .i64 d] T)) :=
 ⟨Gr.step h (boxed _ _), zAB rfl rfl, zAB rfl rfl, zAB rfl rfl, zAB rfl rfl, zAB rfl rfl, zAB rfl rfl⟩
theorem zGz (i : Int) : zAw GA none i = .none := zCh (zBw GA i)
theorem zLj (i : Int) (x : Int × Int × Int × Int × Int × Int) (w : World) : Calls Tryz.prog 5 #[.int .i64 i, cv x] w (Is (.bool true) w) := by
 obtain ⟨s, t, a, b, c, d⟩ := x
 have C0 := zPB (Cx.start s t a b c d w 29 (.refl _ _))
 have WY := zPB (fun w1 => zGb i w1)
 have TX := zPB (fun w1 => zHU i w1)
 have WT := zPB (fun w1 => (show Calls Tryz.prog 17 #[.pointer none, .agg #[.int .i64 s, .int .i64 t, .int .i64 a, .int .i64 b, .int .i64 c, .int .i64 d]] w1 (Two [] false w1) from
  (zMg GA none (.pointer none) (s, t, a, b, c, d) w1 (.inl ⟨rfl, rfl⟩)).mono fun e w' h => h.of (by rw [zGz]; rfl) (by rw [zGz]; rfl)))
 have LN := zPB (fun w1 => len_nil w1)
 have AW := zPB (fun w1 => zC7 w1)
 unfold cv
 go_enter Tryz.func5, Tryz.ntmps5
 go_wp2_with fail
 refine (WY.out _).mono ?_
 rintro e w1 ⟨a1, d1, rfl, _, hb⟩
 have C1 := zPB (C0.out.went hb)
 clear hb C0
 dsimp only [List.length_nil]
 go_wp2_with fail
 refine (TX.out _).mono ?_
 rintro e w2 ⟨a2, d2, rfl, _, hb⟩
 have C2 := zPB (C1.out.went hb)
 have z0 := C2.out.c0
 have z1 := C2.out.c1
 have z2 := C2.out.c2
 have z3 := C2.out.c3
 have z4 := C2.out.c4
 have z5 := C2.out.c5
 clear hb C1
 dsimp only [List.length_nil]
 go_wp2_with fail
 refine (WT.out _).mono ?_
 rintro e w3 ⟨a3, d3, rfl, _, hb⟩
 have C3 := zPB (C2.out.went hb)
 clear hb C2 z0 z1 z2 z3 z4 z5
 dsimp only [List.length_nil]
 go_wp2_with (first
  | (go_at_call 10; refine (LN.out _).mono ?_; rintro e w4 ⟨rfl, hb⟩; have C4 := zPB (C3.out.went hb); clear hb)
  | (go_at_call 7; refine (AW.out _).mono ?_; rintro e w5 ⟨rfl, hb⟩; have C5 := zPB (C4.out.went hb); clear hb))
 go_ret
 exact ⟨rfl, C5.out.below⟩
