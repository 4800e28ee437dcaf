/- A part of the proof. -/
import Derived.Test.YtbcgmiocolpjoaaGreatPk45
import Derived.Test.YtbcgmiocolpjoaaGreatPk46
set_option maxHeartbeats 16000000
set_option maxRecDepth 100000
set_option linter.unusedVariables false
namespace Go.Proofs.YtbcgmiocolpjoaaGreat
namespace Ro
open Go.RowKit Go.Maps
open Gr (Gram Sh GAt gv Bx Is ivs zC3)
open Le (zAC isA zC1)
open Im
open Au
theorem zDE (X : List Int) (a b : Option Addr) (c d : Nat) (w : World) (hX : Sep.Reads a (ivs X) w) (hY : Sep.Reads b (ivs X) w) (hm : X.length <= 100000) :
  Calls Tryz.prog 16 #[.slice a X.length c, .slice b X.length d] w (Is (.bool true) w) := by
 have h := zC1 X X a b c d w hX hY hm hm
 rw [decide_eq_true rfl] at h
 exact h
theorem zKd (h : Sh) (G : Gram) (x : Int × Int × Int × Int × Int × Int) (w : World) (k : GAt h G w) : Calls Tryz.prog 3 #[gv h G, cv x] w (Is (.bool true) w) := by
 obtain ⟨s, t, ca, cb, cc, cd⟩ := x
 have XG := zPB (Bx.start h G w 25)
 have X0 := zPB (XG.out.alloc (.cells #[.int .i64 s, .int .i64 t, .int .i64 ca, .int .i64 cb, .int .i64 cc, .int .i64 cd] 29))
 have D0 := zPB (Cx.start s t ca cb cc cd _ 29 XG.out.below)
 rw [World.size_alloc] at D0
 have MU := zPB (fun w1 (b : Below w.heap.size w w1) => zC3 h G w1 (k.went b))
 have OF := zPB (fun w1 (b : Below w.heap.size w w1) => zO4 h G w1 (k.went b))
 have RF := zPB (fun w1 (b : Below w.heap.size w w1) => zOd h G w1 (k.went b))
 have AW := zPB (fun w1 => zC7 w1)
 clear k XG
 obtain ⟨x0, x1, x2, x3⟩ := X0.out.box
 unfold gv cv at *
 go_enter Tryz.func3, Tryz.ntmps3
 go_wp2_with fail
 refine (MU.out _ X0.out.below).mono ?_
 rintro e w1 ⟨n, rfl, hn, hb⟩
 have X1 := zPB (X0.out.went hb)
 have D1 := zPB (D0.out.went hb)
 clear hb MU hn x0 x1 x2 x3 X0 D0
 obtain ⟨x0, x1, x2, x3⟩ := X1.out.box
 by_cases hn9 : 60 < n
 ·go_wp2_with (go_at_call 7; refine (AW.out _).mono ?_; rintro e w2 ⟨rfl, hb⟩; have HB := zPB (Gr.step X1.out.below hb); clear hb)
  go_ret
  exact ⟨rfl, HB.out⟩
 go_wp2_with fail
 refine (OF.out _ X1.out.below).mono ?_
 rintro e w2 ⟨er, o, v, rfl, ho, hv, hb⟩
 have X2 := zPB (X1.out.went hb)
 have D2 := zPB (D1.out.went hb)
 have V2 := zPB hv
 have HO := zPB ho
 clear hb hv ho OF x0 x1 x2 x3 X1 D1 hn9
 obtain ⟨x0, x1, x2, x3⟩ := X2.out.box
 go_wp2_with fail
 refine (RF.out _ X2.out.below).mono ?_
 rintro e w3 ⟨er2, o2, u, rfl, ho, hu, hb⟩
 obtain ⟨rfl, rfl⟩ := HO.out.uniq ho
 have X3 := zPB (X2.out.went hb)
 have D3 := zPB (D2.out.went hb)
 have B3 := zPB X3.out.below
 have LL := zPB (zNK ho)
 have LN := zPB (fun w1 (b : Below w3.heap.size w3 w1) => zOV G o v w1 ((V2.out.went hb).went b))
 have RL := zPB (fun w1 (b : Below w3.heap.size w3 w1) => zNf G o u w1 (hu.went b))
 have WY := zPB (fun i w1 (b : Below w3.heap.size w3 w1) => zOk G o v i w1 ((V2.out.went hb).went b))
 have RW := zPB (fun i w1 (b : Below w3.heap.size w3 w1) => zKN G o u i w1 (hu.went b))
 have TX := zPB (fun i w1 (b : Below w3.heap.size w3 w1) => zKe G o v i w1 ((V2.out.went hb).went b))
 have RT := zPB (fun i w1 (b : Below w3.heap.size w3 w1) => zHK G o u i w1 (hu.went b))
 have WT := zPB (fun w1 (b : Below w3.heap.size w3 w1) => (show Calls Tryz.prog 17 #[v, .agg #[.int .i64 s, .int .i64 t, .int .i64 ca, .int .i64 cb, .int .i64 cc, .int .i64 cd]] w1 (Two (witA (zAw G o s) t) (isA (zAw G o s)) w1) from zMg G o v (s, t, ca, cb, cc, cd) w1 ((V2.out.went hb).went b)))
 have RI := zPB (fun w1 (b : Below w3.heap.size w3 w1) => (show Calls Tryz.prog 18 #[u, .agg #[.int .i64 s, .int .i64 t, .int .i64 ca, .int .i64 cb, .int .i64 cc, .int .i64 cd]] w1 (Two (witA (zAw G o s) t) (isA (zAw G o s)) w1) from zNk G o u (s, t, ca, cb, cc, cd) w1 (hu.went b)))
 have NW := zPB (zN5 t (zC2 G o s))
 have NT := zPB (fun i => zC2 G o i)
 clear hb hu ho HO V2 RF x0 x1 x2 x3 X2 D2 X3
 generalize hl : lenO o = n at *
 have hn := LL.out
 clear hl LL
 generalize witA (zAw G o s) t = Y at *
 generalize isA (zAw G o s) = yb at *
 go_wp2_with (first
  | (go_at_call 10; refine (LN.out _ (.refl _ _)).mono ?_; rintro e w4 ⟨rfl, hb⟩; have B4 := zPB hb; clear hb)
  | (go_at_call 11; refine (RL.out _ B4.out).mono ?_; rintro e w5 ⟨rfl, hb⟩; have B5 := zPB (Gr.step B4.out hb); clear hb))
 go_loopw [9] (fun s9 wr => ∃ k : Nat, s9 = .int .i64 ((k : Int) - 1) /\ k <= n + 2 /\ Below w3.heap.size w3 wr) (fun s9 _ => n + 2 - (intOf s9 + 1).toNat)
 case atStart => exact ⟨0, rfl, Nat.zero_le _, B5.out⟩
 case round =>
  obtain ⟨k, rfl, hk, hB6⟩ := hrel
  have B6 := zPB hB6
  clear hB6
  by_cases hlt : k <= n + 1
  ·have hle : (k : Int) - 1 <= (n : Int) := by omega
   have hk0 : (-1 : Int) <= (k : Int) - 1 := by omega
   have hk1 : (k : Int) - 1 <= 2000 := by omega
   generalize hi : (k : Int) - 1 = i at *
   have HI := zPB hi
   clear hi
   go_wp2_with fail
   refine (RL.out _ B6.out).mono ?_
   rintro e w7 ⟨rfl, hb⟩
   have B7 := zPB (Gr.step B6.out hb)
   clear hb
   go_wp2_with fail
   refine (WY.out i _ B7.out).mono ?_
   rintro e w8 ⟨⟨a1, d1, rfl, hr, hb⟩, hW⟩
   have B8 := zPB (Gr.step B7.out hb)
   have RA := zPB (fun w' (b : Below w8.heap.size w8 w') => hr.below b (Nat.le_refl _))
   have LW := zPB hW
   clear hb hr hW
   go_wp2_with fail
   refine (RW.out i _ B8.out).mono ?_
   rintro e w9 ⟨⟨a2, d2, rfl, hr, hb⟩, _⟩
   have B9 := zPB (Gr.step B8.out hb)
   have RB := zPB (fun w' (b : Below w9.heap.size w9 w') => hr.below b (Nat.le_refl _))
   have RA9 := zPB (fun w' (b : Below w9.heap.size w9 w') => RA.out w' (Gr.step hb b))
   clear hb hr RA
   go_wp2_with fail
   refine (TX.out i _ B9.out).mono ?_
   rintro e wa ⟨a3, d3, rfl, hr, hb⟩
   have Ba := zPB (Gr.step B9.out hb)
   have RC := zPB (fun w' (b : Below wa.heap.size wa w') => hr.below b (Nat.le_refl _))
   have RAa := zPB (fun w' (b : Below wa.heap.size wa w') => RA9.out w' (Gr.step hb b))
   have RBa := zPB (fun w' (b : Below wa.heap.size wa w') => RB.out w' (Gr.step hb b))
   clear hb hr RA9 RB
   go_wp2_with fail
   refine (RT.out i _ Ba.out).mono ?_
   rintro e wb ⟨a4, d4, rfl, hr, hb⟩
   have Bb := zPB (Gr.step Ba.out hb)
   have I1 := zPB (zDE (wayL G o i) a1 a2 d1 d2 wb (RAa.out wb hb) (RBa.out wb hb) (by have := LW.out; omega))
   have I2 := zPB (fun w' (b : Below wb.heap.size wb w') => zDE (zAC (zAw G o i)) a3 a4 d3 d4 w' (RC.out w' (Gr.step hb b)) (hr.below b (Nat.le_refl _)) (by have := NT.out i; omega))
   clear hb hr RAa RBa RC LW
   generalize wayL G o i = Wi at *
   generalize wayB G o i = bi at *
   generalize zAC (zAw G o i) = Ti at *
   generalize isA (zAw G o i) = ti at *
   go_wp2_with (first
    | (go_at_call 16; (with_reducible refine I1.out.mono ?_); rintro e wc ⟨rfl, hb⟩; have I2c := zPB (I2.out wc hb); have Bc := zPB (Gr.step Bb.out hb); clear hb)
    | (go_at_call 16; (with_reducible refine I2c.out.mono ?_); rintro e wd ⟨rfl, hb⟩; have Bd := zPB (Gr.step Bc.out hb); clear hb))
   go_roundw
   case rel => exact ⟨k + 1, by have := HI.out; go_num, by omega, Bd.out⟩
   case measure => have := HI.out; simp [intOf]; omega
  ·have hle : ¬ ((k : Int) - 1 <= (n : Int)) := by omega
   generalize hi : (k : Int) - 1 = i at *
   clear hi
   go_wp2_with fail
   refine (RL.out _ B6.out).mono ?_
   rintro e w7 ⟨rfl, hb⟩
   have B7 := zPB (Gr.step B6.out hb)
   have D7 := zPB (D3.out.went B7.out)
   have z0 := D7.out.c0
   have z1 := D7.out.c1
   have z2 := D7.out.c2
   have z3 := D7.out.c3
   have z4 := D7.out.c4
   have z5 := D7.out.c5
   clear hb
   go_wp2_with fail
   refine (WT.out _ B7.out).mono ?_
   rintro e w8 ⟨a1, d1, rfl, hr, hb⟩
   have B8 := zPB (Gr.step B7.out hb)
   have RA := zPB (fun w' (b : Below w8.heap.size w8 w') => hr.below b (Nat.le_refl _))
   have D8 := zPB (D3.out.went B8.out)
   clear hb hr z0 z1 z2 z3 z4 z5 D7
   have z0 := D8.out.c0
   have z1 := D8.out.c1
   have z2 := D8.out.c2
   have z3 := D8.out.c3
   have z4 := D8.out.c4
   have z5 := D8.out.c5
   go_wp2_with fail
   refine (RI.out _ B8.out).mono ?_
   rintro e w9 ⟨a2, d2, rfl, hr, hb⟩
   have B9 := zPB (Gr.step B8.out hb)
   have I1 := zPB (zDE Y a1 a2 d1 d2 w9 (RA.out w9 hb) hr (by have := NW.out; omega))
   clear hb hr z0 z1 z2 z3 z4 z5 RA
   go_wp2_with (first
    | (go_at_call 16; (with_reducible refine I1.out.mono ?_); rintro e wc ⟨rfl, hb⟩; have Bc := zPB (Gr.step B3.out (Gr.step B9.out hb)); clear hb)
    | (go_at_call 7; refine (AW.out _).mono ?_; rintro e wd ⟨rfl, hb⟩; have Bd := zPB (Gr.step Bc.out hb); clear hb))
   go_ret
   exact ⟨rfl, Bd.out⟩
