/- A part of the proof. -/
import Derived.Test.YtbcgmiocolpjoaaGreatPk40
set_option maxHeartbeats 4000000
set_option maxRecDepth 100000
set_option linter.unusedVariables false
namespace Go.Proofs.YtbcgmiocolpjoaaGreat
namespace Ro
open Go.RowKit Go.Maps
open Gr (gv Is top zAB boxed ivs)
open Le (ansT nilB zA3 GA aw ah zGh zOF zOj zMe zC1)
open Au
theorem zIQ {q r : Whole} (hq : q.2.length = q.1.length) (hr : r.2.length = r.1.length) (h : states q = states r) : q = r := by
 have h1 : q.1 = r.1 := by
  have := congrArg (List.map Prod.fst) h
  unfold states at this
  rwa [List.map_fst_zip (by omega), List.map_fst_zip (by omega)] at this
 have h2 : q.2 = r.2 := by
  have := congrArg (List.map Prod.snd) h
  unfold states at this
  rwa [List.map_snd_zip (by omega), List.map_snd_zip (by omega)] at this
 exact Prod.ext h1 h2
def qR : Whole := ([k0, k1, k2, k3, k4], [t0, t1, [], [], []])
theorem zM6 {q : Whole} (h : Built GA 0 (states q)) (D : Done GA q) : q = qR := by
 have hb : Built GA 0 XB := zIl
 exact zIQ D.all rfl ((h.uniq hb).2.trans rfl)
def lR : Nat -> List Int
 | 0 => []
 | 1 => [1]
 | 2 => [2]
 | 3 => [3]
 | _ => [1, 3]
theorem zOW : ∀ i, i < 5 -> WayTo qR (lR i) i := fun i hi => by
 have w0 : WayTo qR [] 0 := .nil
 have w1 : WayTo qR [1] 1 := WayTo.snoc (v := []) (s := 1) w0 (by decide)
 have : i = 0 \/ i = 1 \/ i = 2 \/ i = 3 \/ i = 4 := by omega
 rcases this with rfl | rfl | rfl | rfl | rfl
 ·exact w0
 ·exact w1
 ·exact WayTo.snoc (v := []) (s := 2) w0 (by decide)
 ·exact WayTo.snoc (v := []) (s := 3) w0 (by decide)
 ·exact WayTo.snoc (v := [1]) (s := 3) w1 (by decide)
theorem zNN : ∀ i s (j : Nat), i < 5 -> (s, (j : Int)) ∈ qR.2.getD i [] -> rank 3 (lR j) <= rank 3 (lR i ++ [s]) := fun i s j hi hm => by
 have : i = 0 \/ i = 1 \/ i = 2 \/ i = 3 \/ i = 4 := by omega
 rcases this with rfl | rfl | rfl | rfl | rfl
 ·have hm : (s, (j : Int)) ∈ [((1 : Int), (1 : Int)), (2, 2), (3, 3)] := hm
  simp only [List.mem_cons, Prod.mk.injEq, List.not_mem_nil, or_false] at hm
  rcases hm with ⟨rfl, h⟩ | ⟨rfl, h⟩ | ⟨rfl, h⟩
  ·obtain rfl : j = 1 := by omega
   decide
  ·obtain rfl : j = 2 := by omega
   decide
  ·obtain rfl : j = 3 := by omega
   decide
 ·have hm : (s, (j : Int)) ∈ [((1 : Int), (1 : Int)), (2, 2), (3, 4)] := hm
  simp only [List.mem_cons, Prod.mk.injEq, List.not_mem_nil, or_false] at hm
  rcases hm with ⟨rfl, h⟩ | ⟨rfl, h⟩ | ⟨rfl, h⟩
  ·obtain rfl : j = 1 := by omega
   decide
  ·obtain rfl : j = 2 := by omega
   decide
  ·obtain rfl : j = 4 := by omega
   decide
 ·cases hm
 ·cases hm
 ·cases hm
theorem zG1 (D : Done GA qR) : zCC (top GA) qR [1, 3] 4 := zEp (B := 3) lR (zCg D) (by decide) rfl zOW zNN 4 (by decide)
theorem zNO : zA3 (nilB GA) (ansT GA) [1, 3] = .is [1, 2] := by
 rw [zMe, zOj]
 rfl
def GotR (w : World) (e : Ending) (w' : World) : Prop := ∃ (p bE : Nat) (E : Nat -> Nat × Int) (v : Value), e = .returned (.tuple #[.pointer (some ⟨p, 0, none⟩), .int .i64 0]) /\ RtAt GA qR p bE E v w' /\ Done GA qR /\ Below w.heap.size w w'
theorem zMt (W : World) : Calls Tryz.prog 8 #[gv (ah W) GA] (aw W) (GotR (aw W)) :=
 (zCP (ah W) GA (aw W) (zOF W)).mono fun e w' h => by
  rcases h with ⟨er, h0, h1, _, _⟩ | ⟨q, p, bE, E, v, h0, h1, h2, h3, h4, h5, h6⟩
  ·have hb : Built GA 0 XB := zIl
   exact absurd (h1.uniq hb).1 h0
  ·obtain rfl := zM6 h3 h1
   exact ⟨p, bE, E, v, h4, h5, h1, h6⟩
theorem zOy {p bE : Nat} {E : Nat -> Nat × Int} {v : Value} {w : World} (h : RtAt GA qR p bE E v w) (D : Done GA qR) : Calls Tryz.prog 12 #[.pointer (some ⟨p, 0, none⟩), .int .i64 4] w fun e w' => ∃ a c, e = .returned (.tuple #[.slice a 2 c, .bool true]) /\ Sep.Reads a (ivs [1, 3]) w' /\ Below w.heap.size w w' :=
 (zE7 GA qR (by decide) p bE E v 4 w h).mono fun e w' hw => by
  rcases hw with ⟨h1, _, _⟩ | ⟨n, W, a, c, h1, h2, h3, h4, h5, h6, h7⟩
  ·exact absurd (show (0 : Int) <= 4 /\ (4 : Int) < (qR.1.length : Int) by decide) h1
  ·obtain rfl : n = 4 := by omega
   obtain rfl := h3.uniq (zAa D) (zG1 D)
   exact ⟨a, c, h4, h5, h7⟩
theorem zOH {p bE : Nat} {E : Nat -> Nat × Int} {v : Value} {w : World} (h : RtAt GA qR p bE E v w) (D : Done GA qR) : Calls Tryz.prog 14 #[.pointer (some ⟨p, 0, none⟩), .int .i64 4] w fun e w' => ∃ a c, e = .returned (.tuple #[.slice a 2 c, .bool true]) /\ Sep.Reads a (ivs [1, 2]) w' /\ Below w.heap.size w w' :=
 (zHT GA qR (by decide) p bE E v 4 w h).mono fun e w' hw => by
  rcases hw with ⟨h1, _, _⟩ | ⟨n, W, h1, h2, h3, a, c, h4, h5, h6⟩
  ·exact absurd (show (0 : Int) <= 4 /\ (4 : Int) < (qR.1.length : Int) by decide) h1
  ·obtain rfl : n = 4 := by omega
   obtain rfl := h3.uniq (zAa D) (zG1 D)
   rw [zNO] at h4 h5
   exact ⟨a, c, h4, h5, h6⟩
theorem zNz (x y : Int) (w : World) : Sep.Reads (some ⟨w.heap.size, 0, none⟩) (ivs [x, y]) (w.alloc (.cells #[.int .i64 x, .int .i64 y] 3)) := fun i hi => by
 have h2 : i < 2 := hi
 refine ⟨w.heap.size, 0, rfl, ?_⟩
 have : i = 0 \/ i = 1 := by omega
 rcases this with rfl | rfl <;> exact zAB rfl rfl
theorem zMW (x y : Int) (a : Option Addr) (c : Nat) (w : World) (h : Sep.Reads a (ivs [x, y]) w) : Calls Tryz.prog 16 #[.slice a 2 c, .slice (some ⟨w.heap.size, 0, none⟩) 2 2] (w.alloc (.cells #[.int .i64 x, .int .i64 y] 3)) (Is (.bool true) (w.alloc (.cells #[.int .i64 x, .int .i64 y] 3))) := by
 have h := zC1 [x, y] [x, y] a (some ⟨w.heap.size, 0, none⟩) c 2 (w.alloc (.cells #[.int .i64 x, .int .i64 y] 3)) (h.below (boxed _ _) (Nat.le_refl _)) (zNz x y w) (by simp) (by simp)
 rw [decide_eq_true rfl] at h
 exact h
theorem zC7 (W : World) : Calls Tryz.prog 7 #[] W (Is (.bool true) W) := by
 have A := zPB (zGh W)
 have C := zPB (zMt W)
 go_enter Tryz.func7, Tryz.ntmps7
 go_wp2_with fail
 refine C.out.mono ?_
 rintro e w1 ⟨p, bE, E, v, rfl, hr, D, hb⟩
 have R1 := zPB hr
 have B1 := zPB (Gr.step A.out hb)
 have DD := zPB D
 clear hr hb A C D
 have CW := zPB (zOy R1.out DD.out)
 go_wp2_with fail
 refine CW.out.mono ?_
 rintro e w2 ⟨a, c, rfl, hR, hb⟩
 have R2 := zPB (R1.out.went hb)
 have B2 := zPB (Gr.step B1.out hb)
 have RW := zPB hR
 clear hR hb CW R1 B1
 have CT := zPB (zOH R2.out DD.out)
 go_wp2_with fail
 refine CT.out.mono ?_
 rintro e w3 ⟨a2, c2, rfl, hR, hb⟩
 have R3 := zPB (R2.out.went hb)
 have B3 := zPB (Gr.step B2.out hb)
 have RV := zPB (RW.out.below hb (Nat.le_refl _))
 have RT := zPB hR
 clear hR hb CT R2 B2 RW
 have I1 := zPB (zMW 1 3 a c w3 RV.out)
 go_wp2_with fail
 refine I1.out.mono ?_
 rintro e w4 ⟨rfl, hb⟩
 have b4 := Gr.step (boxed w3 (.cells #[.int .i64 1, .int .i64 3] 3)) hb
 have R4 := zPB (R3.out.went b4)
 have B4 := zPB (Gr.step B3.out b4)
 have RT4 := zPB (RT.out.below b4 (Nat.le_refl _))
 clear hb b4 I1 R3 B3 RT RV
 have I2 := zPB (zMW 1 2 a2 c2 w4 RT4.out)
 go_wp2_with fail
 refine I2.out.mono ?_
 rintro e w5 ⟨rfl, hb⟩
 have b5 := Gr.step (boxed w4 (.cells #[.int .i64 1, .int .i64 2] 3)) hb
 have R5 := zPB (R4.out.went b5)
 have B5 := zPB (Gr.step B4.out b5)
 clear hb b5 I2 R4 B4 RT4
 have LN := zPB (show Calls Tryz.prog 10 #[.pointer (some ⟨p, 0, none⟩)] w5 (Is (.int .i64 5) w5) from zEr GA qR p bE E v w5 R5.out)
 go_wp2_with fail
 refine LN.out.mono ?_
 rintro e w6 ⟨rfl, hb⟩
 have B6 := zPB (Gr.step B5.out hb)
 clear hb
 go_wp2
 go_ret
 exact ⟨rfl, B6.out⟩
