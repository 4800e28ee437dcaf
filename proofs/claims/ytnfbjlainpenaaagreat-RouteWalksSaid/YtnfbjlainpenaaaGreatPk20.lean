/- A part of the proof. -/
import Derived.Test.YtnfbjlainpenaaaGreatPk19
import Derived.Test.YtnfbjlainpenaaaGreatPk10
set_option maxHeartbeats 8000000
set_option maxRecDepth 100000
set_option linter.unusedVariables false
namespace Go.Proofs.YtnfbjlainpenaaaGreat
open Go.RowKit Go.Maps
namespace Le
open Gr (Is step ivs zBT zAH)
def zMd (T : Int -> Ans) (l : List Int) (W : World) (m i : Value) (w : World) : Prop :=
 ∃ k n : Nat, k <= l.length /\ i = .int .i64 k /\ m = .int .i64 n /\ zGg T l k n /\ Below W.heap.size W w
theorem zMv (n m : Nat) : Value.int .i64 (if (4097 : Int) < (n : Int) + (m : Int) then 4097 else (n : Int) + (m : Int)) = .int .i64 ((min (n + m) 4097 : Nat) : Int) := by
 congr 1
 split <;> omega
theorem zJU (nl : Bool) (v : Value) (T : Int -> Ans) (l : List Int) (a : Option Addr) (c : Nat) (w : World) (h : VAt nl v T w) (hR : Sep.Reads a (ivs l) w) (hl : l.length <= 17592186044416) :
  Calls Tryz.prog 76 #[v, .slice a l.length c] w (Is (.int .i64 (lenA (J T l) : Int)) w) := by
 have AT := zNR (fun s w1 (b : Below w.heap.size w w1) => zK9 nl v T s w1 (h.went b))
 have RR := zNR (fun w1 (b : Below w.heap.size w w1) => Sep.Reads.below hR b (Nat.le_refl _))
 have TB := zNR h.bnd
 have hfd := zH3
 clear h hR
 go_enter Tryz.func76, Tryz.ntmps76
 go_wp2
 go_loopw [5, 11] (fun m i wr => zMd T l w m i wr) (fun _ i _ => l.length - (intOf i).toNat)
 case atStart => exact ⟨0, 0, Nat.zero_le _, rfl, rfl, zKs _ _, .refl _ _⟩
 case round =>
  obtain ⟨k, n, hk, rfl, rfl, hS, hb⟩ := hrel
  have S := zNR hS
  have B := zNR hb
  have hn := zM3 hS
  clear hS hb
  by_cases hlt : k < l.length
  ·obtain ⟨b, o, rfl, hc⟩ := zBT (RR.out _ B.out) hlt
   have A1 := zNR (AT.out l[k] _ B.out)
   by_cases hz : T l[k] = .none
   ·have Z := zNR (zKq hlt hz)
    rw [hz] at A1
    clear hz
    generalize l[k] = s at *
    go_wp2_with (go_at_call 77; refine A1.out.mono ?_; rintro e w1 ⟨ad, cc, rfl, _, hb⟩; have B1 := zNR (Gr.step B.out hb); clear hb)
    go_ret
    exact ⟨by rw [Z.out]; rfl, B1.out⟩
   ·have S1 := zNR (zKr TB.out S.out hlt hz)
    have hle := zD7 (TB.out l[k])
    have hne : lenA (T l[k]) ≠ 4098 := fun e => hz ((zD8 (TB.out l[k])).1 e)
    clear hz
    generalize T l[k] = t at *
    generalize l[k] = s at *
    have hd : ((lenA t : Int) == 4098) = false := by rw [beq_eq_false_iff_ne]; omega
    go_wp2_with (go_at_call 77; refine A1.out.mono ?_; rintro e w1 ⟨ad, cc, rfl, _, hb⟩; have B1 := zNR (Gr.step B.out hb); clear hb)
    go_roundw
    case rel => exact ⟨k + 1, min (n + lenA t) 4097, by omega, by go_num, zMv _ _, S1.out, B1.out⟩
    case measure => simp [intOf]; omega
  ·have E := zNR (zMO S.out hlt)
   go_wp2
   go_ret
   exact ⟨zAH (congrArg _ E.out.symm), B.out⟩
end Le
namespace Le
open Gr (step boxed drawn ivs iv zBT zAq zAj New)
open Rw (Bk zGd zAh)
theorem zIc (n : Nat) (hn : n <= 4096) (w : World) :
  (Instr.makeSlice 40 (.int .i64 0) (.int .i64 (n : Int))).run Tryz.prog w = .ok (.slice (some ⟨w.heap.size, 0, none⟩) 0 n) (w.alloc (.cells (madeCells #[.int .i64 0] n) 3)) := by
 obtain ⟨i0, hi, hz0, hz1, hz2⟩ := info_parts zAq
 have hr := run_make (P := Tryz.prog) w 40 3 i0 (.int .i64 0) Tryz.underlying40 hi hz0 .i64 .i64 0 (n : Int) (Int.le_refl _) (by omega) (by rw [hz2]; omega) (by omega)
 simp only [Int.toNat_zero, Int.toNat_natCast, hz1, Nat.mul_one] at hr
 exact hr
def Joined (a : Ans) (w : World) (e : Ending) (w' : World) : Prop :=
 ∃ ad c, e = .returned (.agg #[.int .i64 (lenA a : Int), .slice ad (zAK a).length c]) /\ Sep.Reads ad (ivs (zAK a)) w' /\ New ad w /\ Below w.heap.size w w'
structure JSt (W : World) (q n : Nat) (X : List Int) (a : Option Addr) (c : Nat) (w : World) : Prop where
 b : Below W.heap.size W w
 r : Bk W.heap.size #[.int .i64 0, .slice none 0 0] 101 w
 v : Bk q #[.int .i64 (n : Int), .slice a X.length c] 101 w
 t : zGd (q + 1) X (.slice a X.length c) w
 lo : W.heap.size < q
theorem JSt.went {W : World} {q n : Nat} {X : List Int} {a : Option Addr} {c : Nat} {w w' : World} (k : JSt W q n X a c w) (hb : Below w.heap.size w w') : JSt W q n X a c w' :=
 ⟨Gr.step k.b hb, k.r.went hb, k.v.went hb, k.t.went hb, k.lo⟩
theorem JSt.put {W : World} {q n : Nat} {X Y : List Int} {a : Option Addr} {c : Nat} {w w3 w4 : World} (k : JSt W q n X a c w) (hb : Below w.heap.size w w3) {a4 : Option Addr} {c4 : Nat}
  (hown : w4.ownsRow (q + 1) 3 1 (.slice a4 (X.length + Y.length) c4) (X.length + Y.length) (ivs X ++ ivs Y)) (hg : w3.grownBy w4 (Value.slice a X.length c).ownBlock) :
  JSt W q n (X ++ Y) a4 c4 (w4.setCell ⟨q, 1, none⟩ (.slice a4 (X.length + Y.length) c4)) := by
 have lo : ∀ g, (Value.slice a X.length c).ownBlock = some g -> q + 1 <= g := fun g h => (World.ownsRow.lt k.t g h).1
 have hlo := k.lo
 have hs : (w4.setCell ⟨q, 1, none⟩ (.slice a4 (X.length + Y.length) c4)).heap.size = w4.heap.size := Rw.zCD _ _ _
 have hF : Sep.Fr (fun i => i = q) w4 (w4.setCell ⟨q, 1, none⟩ (.slice a4 (X.length + Y.length) c4)) := (Sep.Fr.refl (fun i => i = q) w4).setCell ⟨q, 1, none⟩ rfl _
 have hl : (X ++ Y).length = X.length + Y.length := List.length_append
 have k3 := k.went hb
 have b4 : Below W.heap.size W w4 := k3.b.grown hg k3.b.size fun g h => by have := lo g h; omega
 refine ⟨b4.trans (hF.below (fun i hi => by omega) b4.size), (k3.r.grown hg fun g h => by have := lo g h; omega).fr hF (by omega), ?_, ?_, hlo⟩
 ·have := (k3.v.grown hg fun g h => by have := lo g h; omega).set (j := 1) (by simp) (.slice a4 (X.length + Y.length) c4)
  rw [hl]
  simpa using this
 ·unfold zGd
  rw [hl]
  have e : ivs (X ++ Y) = ivs X ++ ivs Y := by simp [ivs]
  rw [e]
  exact Sep.zAG hown fun g hg => hF.block g (hown.lt g hg).2 (by have := (hown.lt g hg).1; omega)
theorem zIR {W w1 : World} {n : Nat} (hn : n <= 4096) (hb : Below W.heap.size W w1) (hr : Bk W.heap.size #[.int .i64 0, .slice none 0 0] 101 w1) :
  JSt W w1.heap.size n [] (some ⟨w1.heap.size + 1, 0, none⟩) n ((w1.alloc (.cells #[.int .i64 (n : Int), .slice (some ⟨w1.heap.size + 1, 0, none⟩) 0 n] 101)).alloc (.cells (madeCells #[.int .i64 0] n) 3)) := by
 have b1 := boxed w1 (.cells #[.int .i64 (n : Int), .slice (some ⟨w1.heap.size + 1, 0, none⟩) 0 n] 101)
 have b2 := boxed (w1.alloc (.cells #[.int .i64 (n : Int), .slice (some ⟨w1.heap.size + 1, 0, none⟩) 0 n] 101)) (.cells (madeCells #[.int .i64 0] n) 3)
 refine ⟨Gr.step (Gr.step hb b1) b2, (hr.went b1).went b2, (Bk.new w1 _ _ _ rfl).went b2, ?_, hr.lt⟩
 have := World.ownsRow_made (w1.alloc (.cells #[.int .i64 (n : Int), .slice (some ⟨w1.heap.size + 1, 0, none⟩) 0 n] 101)) (e := 3) (base := w1.heap.size + 1) (size := 1) (madeCells #[.int .i64 0] n) n (by simp) (by unfold maxLen; omega) (by simp [size_madeCells])
 simpa [zGd, ivs] using this
theorem JSt.done {W : World} {q n : Nat} {X : List Int} {a : Option Addr} {c : Nat} {w : World} (k : JSt W q n X a c w) (x y : Value) :
  Sep.Reads a (ivs X) ((w.setCell ⟨W.heap.size, 0, none⟩ x).setCell ⟨W.heap.size, 1, none⟩ y) /\ New a W /\ Below W.heap.size W ((w.setCell ⟨W.heap.size, 0, none⟩ x).setCell ⟨W.heap.size, 1, none⟩ y) := by
 have hlo := k.lo
 have hF : Sep.Fr (fun i => i = W.heap.size) w ((w.setCell ⟨W.heap.size, 0, none⟩ x).setCell ⟨W.heap.size, 1, none⟩ y) :=
  ((Sep.Fr.refl (fun i => i = W.heap.size) w).setCell ⟨W.heap.size, 0, none⟩ rfl _).setCell ⟨W.heap.size, 1, none⟩ rfl _
 refine ⟨Sep.Reads.of_row (Sep.zAG k.t fun g hg => hF.block g (World.ownsRow.lt k.t g hg).2 (by have := (World.ownsRow.lt k.t g hg).1; omega)), Gr.zEF k.t (by omega), k.b.trans (hF.below (fun i hi => by omega) k.b.size)⟩
def JRel (T : Int -> Ans) (l : List Int) (W : World) (q n : Nat) (i : Value) (w : World) : Prop :=
 ∃ k : Nat, k <= l.length /\ i = .int .i64 k /\ ∃ a c, JSt W q n (flat T (l.take k)) a c w
theorem zF0 (nl : Bool) (v : Value) (T : Int -> Ans) (l : List Int) (a : Option Addr) (c : Nat) (w : World) (h : VAt nl v T w) (hR : Sep.Reads a (ivs l) w) (hl : l.length <= 17592186044416) :
  Calls Tryz.prog 47 #[v, .slice a l.length c] w (Joined (J T l) w) := by
 obtain ⟨i0, hi, hz0, hz1, hz2⟩ := info_parts zAq
 have AT := zNR (fun s w1 (b : Below w.heap.size w w1) => zK9 nl v T s w1 (h.went b))
 have RR := zNR (fun w1 (b : Below w.heap.size w w1) => Sep.Reads.below hR b (Nat.le_refl _))
 have TO := zNR (fun w1 (b : Below w.heap.size w w1) => zJU nl v T l a c w1 (h.went b) (RR.out _ b) hl)
 have TB := zNR h.bnd
 have bx := zNR (boxed w (.cells #[.int .i64 0, .slice none 0 0] 101))
 have Q0 := zNR (Bk.new w #[.int .i64 0, .slice none 0 0] 101 _ rfl)
 have hbd := zD7 (zBL T l)
 have hfd := zFD
 clear h hR
 by_cases hz : isA (J T l) = true
 ·have hle := (zIY (zBL T l)).2 hz
  have FW := zNR (zEb hz)
  have FL := zNR (zJx hz)
  have hmk := fun w => zIc (lenA (J T l)) hle w
  clear hz
  generalize hJ : J T l = jj at *
  clear hJ
  generalize hN : lenA jj = n at *
  have NN := zNR hN
  clear hN
  go_enter Tryz.func47, Tryz.ntmps47
  go_wp2_with (go_at_call 76; refine (TO.out _ bx.out).mono ?_; rintro e w1 ⟨rfl, hb⟩; have B1 := zNR (Gr.step bx.out hb); have Q1 := zNR (Q0.out.went hb); have hq1 : w.heap.size < w1.heap.size := Q1.out.lt; clear hb)
  have ST := zNR (zIR hle B1.out Q1.out)
  generalize w1.heap.size = q at *
  clear hmk
  go_loopw [22] (fun i wr => JRel T l w q n i wr) (fun i _ => l.length - (intOf i).toNat)
  case atStart => exact ⟨0, Nat.zero_le _, rfl, _, _, ST.out⟩
  case round =>
   clear ST B1 Q1
   obtain ⟨k, hk, rfl, ga, gc, hJ⟩ := hrel
   have J1 := zNR hJ
   obtain ⟨v0, v1, vf⟩ := hJ.v.two
   obtain ⟨r0, r1, rf⟩ := hJ.r.two
   have hqr : q < wr.heap.size := hJ.v.lt
   have hwr : w.heap.size < wr.heap.size := hJ.r.lt
   have hlo := hJ.lo
   clear hJ
   by_cases hlt : k < l.length
   ·obtain ⟨b, o, rfl, hc⟩ := zBT (RR.out _ J1.out.b) hlt
    have FT := zNR (zH6 (T := T) hlt)
    have hXY : (flat T (l.take k)).length + (zAK (T l[k])).length <= 4096 := by
     have h1 := zLf T l (k + 1)
     rw [FT.out, List.length_append, FL.out] at h1
     omega
    have AC := zNR (fun w1 (b : Below wr.heap.size wr w1) => AT.out l[k] w1 (Gr.step J1.out.b b))
    generalize T l[k] = t at *
    generalize l[k] = s at *
    generalize flat T (l.take k) = X at *
    generalize hY : zAK t = Y at *
    unfold zK8 at AC
    rw [hY] at AC
    clear hY
    go_wp2
    have hbr := drawn wr
    go_region_law (first
     | (refine zAj _ (by rfl) _ _ 40 (by rfl) (q + 1) 3 i0 (.int .i64 0) 8 Tryz.underlying40 hi hz0 hz1 hz2 rfl (.slice ga X.length gc) X.length (ivs X) (by rfl) (J1.out.t.went kB) _ _ _ (ivs Y) (by rfl) (by simp [ivs]) hR3 (by simp [ivs, iv, Value.oneCell']) (by unfold maxLen; omega) (by omega) (by omega) ?_; intro v4 w4 hown4 hg4 _; obtain ⟨a4, c4, rfl⟩ := zAh hown4; have J4 := zNR (J1.out.put kB hown4 hg4); have V4 := zNR ((J1.out.v.went kB).grown hg4 (fun g hg => by have := (World.ownsRow.lt J1.out.t g hg).1; omega)); obtain ⟨y0, y1, yf⟩ := V4.out.two; have hq4 : q < w4.heap.size := V4.out.lt; clear hown4 hg4)
     | (go_simp; go_at_call 77; (with_reducible refine (AC.out _ (by assumption)).mono ?_); rintro e w3 ⟨ad, cc, rfl, hR3, hb⟩; have kB : Below wr.heap.size wr w3 := Gr.step (by assumption) hb; obtain ⟨v0, v1, vf⟩ := (J1.out.v.went kB).two; have hq3 : q < w3.heap.size := (J1.out.v.went kB).lt; clear hb))
    all_goals
     go_wp2
     go_roundw
     case rel => exact ⟨k + 1, by omega, by go_num, _, _, by rw [FT.out]; exact J4.out⟩
     case measure => simp [intOf]; omega
   ·have hE : k = l.length := by omega
    have XE := zNR (show flat T (l.take k) = zAK jj by rw [FW.out, hE, List.take_length])
    generalize flat T (l.take k) = X at *
    obtain rfl : X = zAK jj := XE.out
    obtain ⟨d1, d2, d3⟩ := J1.out.done (.int .i64 (n : Int)) (.slice ga (zAK jj).length gc)
    have D1 := zNR d1
    have D2 := zNR d2
    have D3 := zNR d3
    clear d1 d2 d3
    go_wp2
    try simp only [Exit.inBlock, Exit.then]
    exact bodyPost_ret (v := .agg #[.int .i64 (n : Int), .slice ga (zAK jj).length gc]) (by simp [results, Tryz.results47, go_sem, r0, r1]) rfl ⟨ga, gc, by rw [NN.out], D1.out, D2.out, D3.out⟩
 ·have hle : ¬ lenA (J T l) <= 4096 := fun k => hz ((zIY (zBL T l)).1 k)
  have WN := zNR (zLk (Bool.eq_false_iff.2 hz))
  clear hz
  generalize hJ : J T l = jj at *
  clear hJ
  generalize hN : lenA jj = n at *
  have NN := zNR hN
  clear hN
  go_enter Tryz.func47, Tryz.ntmps47
  go_wp2_with (go_at_call 76; refine (TO.out _ bx.out).mono ?_; rintro e w1 ⟨rfl, hb⟩; have B1 := zNR (Gr.step bx.out hb); have Q1 := zNR (Q0.out.went hb); have hq1 : w.heap.size < w1.heap.size := Q1.out.lt; obtain ⟨r0, r1, rf⟩ := Q1.out.two; clear hb)
  have b2 := (((Below.refl w.heap.size w1).setCell (p := ⟨w.heap.size, 0, none⟩) (Nat.le_refl _) (.int .i64 (n : Int))).setCell (p := ⟨w.heap.size, 1, none⟩) (Nat.le_refl _) (.slice none 0 0)).alloc (by rw [Rw.zCD, Rw.zCD]; omega) (.cells #[.int .i64 (n : Int), .slice none 0 0] 101)
  try simp only [Exit.inBlock, Exit.then]
  exact bodyPost_ret (v := .agg #[.int .i64 (n : Int), .slice none 0 0]) (by simp [results, Tryz.results47, go_sem, r0, r1, hq1]) rfl ⟨none, 0, by rw [NN.out, WN.out]; rfl, by rw [WN.out]; exact .nil _ _, (fun x h => by cases h), B1.out.trans b2⟩
end Le
namespace Le
open Gr (Is step boxed ivs zBT zAH zAA)
def Still (v : Value) (w : World) (e : Ending) (w' : World) : Prop := e = .returned v /\ w = w'
def cmpI (x y : Int) : Int := if x < y then -1 else if y < x then 1 else 0
theorem zFS (x : Int) (w : World) : Calls Tryz.prog 109 #[.int .i64 x] w (Still (.bool false) w) := by
 go_enter Tryz.func109, Tryz.ntmps109
 go_wp2
 go_ret
 exact ⟨zAA (by simp), rfl⟩
theorem zHw (x y : Int) (w : World) : Calls Tryz.prog 96 #[.int .i64 x, .int .i64 y] w (Still (.int .i64 (cmpI x y)) w) := by
 by_cases h1 : x < y
 ·have E := zNR (show cmpI x y = -1 from if_pos h1)
  have d1 : decide (x < y) = true := decide_eq_true h1
  clear h1
  go_enter Tryz.func96, Tryz.ntmps96
  go_wp2_with (go_at_call 109; refine (zFS _ _).mono ?_; rintro e w1 ⟨rfl, rfl⟩)
  go_ret
  exact ⟨zAH E.out, rfl⟩
 ·have d1 : decide (x < y) = false := decide_eq_false h1
  by_cases h2 : y < x
  ·have E := zNR (show cmpI x y = 1 from by unfold cmpI; rw [if_neg h1, if_pos h2])
   have d2 : decide (y < x) = true := decide_eq_true h2
   clear h1 h2
   go_enter Tryz.func96, Tryz.ntmps96
   go_wp2_with (go_at_call 109; refine (zFS _ _).mono ?_; rintro e w1 ⟨rfl, rfl⟩)
   go_ret
   exact ⟨zAH E.out, rfl⟩
  ·have E := zNR (show cmpI x y = 0 from by unfold cmpI; rw [if_neg h1, if_neg h2])
   have d2 : decide (y < x) = false := decide_eq_false h2
   clear h1 h2
   go_enter Tryz.func96, Tryz.ntmps96
   go_wp2_with (go_at_call 109; refine (zFS _ _).mono ?_; rintro e w1 ⟨rfl, rfl⟩)
   go_ret
   exact ⟨zAH E.out, rfl⟩
theorem zLX {x y : Int} (h : x = y) : cmpI x y = 0 := by unfold cmpI; rw [if_neg (by omega), if_neg (by omega)]
theorem zHv {x y : Int} (h : x ≠ y) : cmpI x y ≠ 0 /\ cmpI x y = if x < y then -1 else 1 := by
 unfold cmpI
 by_cases h1 : x < y
 ·rw [if_pos h1, if_pos h1]
  exact ⟨by omega, rfl⟩
 ·rw [if_neg h1, if_neg h1, if_pos (by omega)]
  exact ⟨by omega, rfl⟩
theorem zBq (X Y : List Int) (a b : Option Addr) (c d : Nat) (w : World) (hX : Sep.Reads a (ivs X) w) (hY : Sep.Reads b (ivs Y) w) (hl : X.length = Y.length) (hm : X.length <= 100000) :
  Calls Tryz.prog 73 #[.slice a X.length c, .slice b Y.length d] w (Still (.int .i64 (cmpL X Y)) w) := by
 have HX := zNR hX
 have HY := zNR hY
 have HL := zNR hl
 rw [← hl]
 clear hX hY hl
 go_enter Tryz.func73, Tryz.ntmps73
 go_wp2
 go_loop [11] (fun i => ∃ k : Nat, k <= X.length /\ i = .int .i64 k /\ zA8 X Y k) (fun i => X.length - (intOf i).toNat)
 case atStart => exact ⟨0, Nat.zero_le _, rfl, zEz _ _⟩
 case round =>
  obtain ⟨k, hk, rfl, hS⟩ := hrel
  have S := zNR hS
  clear hS
  by_cases hlt : k < X.length
  ·have hlt2 : k < Y.length := by rw [← HL.out]; exact hlt
   obtain ⟨b1, o1, e1, hc1⟩ := zBT HX.out hlt
   obtain ⟨b2, o2, e2, hc2⟩ := zBT HY.out hlt2
   have NS := zNR (fun he => zEy S.out hlt hlt2 he)
   have NE := zNR (fun he => (zMi S.out hlt hlt2 he).trans (zHv he).2.symm)
   have d0 : decide (X.length <= k) = false := decide_eq_false (by omega)
   generalize X[k] = x at *
   generalize Y[k] = y at *
   subst e1 e2
   by_cases hxy : x = y
   ·have S2 := zNR (NS.out hxy)
    have CM := zNR (fun w => zHw x y w)
    rw [zLX hxy] at CM
    clear hxy NS NE hlt2
    go_wp2_with (go_at_call 96; refine (CM.out _).mono ?_; rintro e w1 ⟨rfl, rfl⟩)
    go_round
    case rel => exact ⟨k + 1, by omega, by go_num, S2.out⟩
    case measure => simp [intOf]; omega
   ·have E := zNR (NE.out hxy)
    have hne := (zHv hxy).1
    have CM := zNR (fun w => zHw x y w)
    clear hxy NS NE hlt2
    generalize cmpI x y = ci at *
    have hb : (ci != 0) = true := by simpa using hne
    clear hne
    go_wp2_with (go_at_call 96; refine (CM.out _).mono ?_; rintro e w1 ⟨rfl, rfl⟩)
    go_ret
    exact ⟨zAH E.out, rfl⟩
  ·have E := zNR (show cmpL X Y = 0 from by rw [zGS S.out hlt HL.out]; exact zJt Y)
   go_wp2
   go_ret
   exact ⟨zAH E.out, rfl⟩
theorem zFP (X Y : List Int) (a b : Option Addr) (c d : Nat) (w : World) (hX : Sep.Reads a (ivs X) w) (hY : Sep.Reads b (ivs Y) w) (hl : X.length = Y.length) (hm : X.length <= 100000) :
  Calls Tryz.prog 43 #[.slice a X.length c, .slice b Y.length d] w (Still (.int .i64 (cmpL X Y)) w) := by
 have C := zNR (zBq X Y a b c d w hX hY hl hm)
 clear hX hY hl
 go_enter Tryz.func43, Tryz.ntmps43
 go_wp2_with (go_at_call 73; refine C.out.mono ?_; rintro e w1 ⟨rfl, rfl⟩)
 go_ret
 exact ⟨rfl, rfl⟩
abbrev lexV : Value := .func (.func 43) #[] #[]
theorem zFg (x : Option Addr) (s t : Ans) (a b : Option Addr) (c d : Nat) (w : World) (hX : Sep.Reads a (ivs (zAK s)) w) (hY : Sep.Reads b (ivs (zAK t)) w) (hs : Bd s) (ht : Bd t) :
  Calls Tryz.prog 74 #[.agg #[.pointer x, lexV], .agg #[.int .i64 (lenA s : Int), .slice a (zAK s).length c], .agg #[.int .i64 (lenA t : Int), .slice b (zAK t).length d]] w (Is (.bool (zAY s t)) w) := by
 have b1 := boxed w (.cells #[.pointer x, lexV] 93)
 have b2 := Gr.step b1 (boxed _ (.cells #[.int .i64 (lenA s : Int), .slice a (zAK s).length c] 101))
 have B3 := zNR (Gr.step b2 (boxed _ (.cells #[.int .i64 (lenA t : Int), .slice b (zAK t).length d] 101)))
 have hs2 := zGb hs
 have ht2 := zGb ht
 clear b1 b2
 by_cases he : lenA s = lenA t
 ·obtain ⟨e1, e2⟩ := zHj hs ht he
  have E := zNR ((zLY e2).trans e1.symm)
  have C := zNR (fun w1 (bb : Below w.heap.size w w1) => zFP (zAK s) (zAK t) a b c d w1 (hX.below bb (Nat.le_refl _)) (hY.below bb (Nat.le_refl _)) e2 (by omega))
  rw [he]
  rw [he] at B3
  generalize lenA t = n at *
  generalize cmpL (zAK s) (zAK t) = ci at *
  clear e1 e2 he hX hY hs ht
  generalize zAK s = X at *
  generalize zAK t = Y at *
  go_enter Tryz.func74, Tryz.ntmps74
  go_wp2_with (go_at_call 43; refine (C.out _ B3.out).mono ?_; rintro e w1 ⟨rfl, rfl⟩)
  go_ret
  exact ⟨zAA E.out.symm, B3.out⟩
 ·have E := zNR (zHk hs ht he)
  have hb : ((lenA s : Int) != (lenA t : Int)) = true := by simp; omega
  generalize lenA s = n at *
  generalize lenA t = m at *
  generalize zAK s = X at *
  generalize zAK t = Y at *
  clear he hX hY hs ht
  go_enter Tryz.func74, Tryz.ntmps74
  go_wp2
  go_ret
  exact ⟨zAA E.out, B3.out⟩
