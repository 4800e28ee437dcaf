/- A part of the proof. -/
import Derived.Test.YtbcgmiocolpjoaaGreatPk13
import Derived.Test.YtbcgmiocolpjoaaGreatPk11
set_option maxHeartbeats 8000000
set_option maxRecDepth 100000
set_option linter.unusedVariables false
namespace Go.Proofs.YtbcgmiocolpjoaaGreat
open Go.RowKit Go.Maps
namespace Le
open Gr (step boxed drawn ivs iv zAs zAS zAG New)
open Rw (Bk zDf zAK)
theorem zJh (n : Nat) (hn : n <= 4096) (w : World) :
  (Instr.makeSlice 40 (.int .i64 0) (.int .i64 (n : Int))).run Tryz.prog w = .ok (.slice (some ⟨w.heap.size, 0, none⟩) 0 n) (w.alloc (.cells (madeCells #[.int .i64 0] n) 3)) := by
 obtain ⟨i0, hi, hz0, hz1, hz2⟩ := info_parts zAS
 have hr := run_make (P := Tryz.prog) w 40 3 i0 (.int .i64 0) Tryz.underlying40 hi hz0 .i64 .i64 0 (n : Int) (Int.le_refl _) (by omega) (by rw [hz2]; omega) (by omega)
 simp only [Int.toNat_zero, Int.toNat_natCast, hz1, Nat.mul_one] at hr
 exact hr
def Joined (a : Ans) (w : World) (e : Ending) (w' : World) : Prop :=
 ∃ ad c, e = .returned (.agg #[.int .i64 (lenA a : Int), .slice ad (zAC a).length c]) /\ Sep.Reads ad (ivs (zAC a)) w' /\ New ad w /\ Below w.heap.size w w'
structure JSt (W : World) (q n : Nat) (X : List Int) (a : Option Addr) (c : Nat) (w : World) : Prop where
 b : Below W.heap.size W w
 r : Bk W.heap.size #[.int .i64 0, .slice none 0 0] 101 w
 v : Bk q #[.int .i64 (n : Int), .slice a X.length c] 101 w
 t : zDf (q + 1) X (.slice a X.length c) w
 lo : W.heap.size < q
theorem JSt.went {W : World} {q n : Nat} {X : List Int} {a : Option Addr} {c : Nat} {w w' : World} (k : JSt W q n X a c w) (hb : Below w.heap.size w w') : JSt W q n X a c w' :=
 ⟨Gr.step k.b hb, k.r.went hb, k.v.went hb, k.t.went hb, k.lo⟩
theorem JSt.put {W : World} {q n : Nat} {X Y : List Int} {a : Option Addr} {c : Nat} {w w3 w4 : World} (k : JSt W q n X a c w) (hb : Below w.heap.size w w3) {a4 : Option Addr} {c4 : Nat}
  (hown : w4.ownsRow (q + 1) 3 1 (.slice a4 (X.length + Y.length) c4) (X.length + Y.length) (ivs X ++ ivs Y)) (hg : w3.grownBy w4 (Value.slice a X.length c).ownBlock) :
  JSt W q n (X ++ Y) a4 c4 (w4.setCell ⟨q, 1, none⟩ (.slice a4 (X.length + Y.length) c4)) := by
 have lo : ∀ g, (Value.slice a X.length c).ownBlock = some g -> q + 1 <= g := fun g h => (World.ownsRow.lt k.t g h).1
 have hlo := k.lo
 have hs : (w4.setCell ⟨q, 1, none⟩ (.slice a4 (X.length + Y.length) c4)).heap.size = w4.heap.size := Rw.zAf _ _ _
 have hF : Sep.Fr (fun i => i = q) w4 (w4.setCell ⟨q, 1, none⟩ (.slice a4 (X.length + Y.length) c4)) := (Sep.Fr.refl (fun i => i = q) w4).setCell ⟨q, 1, none⟩ rfl _
 have hl : (X ++ Y).length = X.length + Y.length := List.length_append
 have k3 := k.went hb
 have b4 : Below W.heap.size W w4 := k3.b.grown hg k3.b.size fun g h => by have := lo g h; omega
 refine ⟨b4.trans (hF.below (fun i hi => by omega) b4.size), (k3.r.grown hg fun g h => by have := lo g h; omega).fr hF (by omega), ?_, ?_, hlo⟩
 ·have := (k3.v.grown hg fun g h => by have := lo g h; omega).set (j := 1) (by simp) (.slice a4 (X.length + Y.length) c4)
  rw [hl]
  simpa using this
 ·unfold zDf
  rw [hl]
  have e : ivs (X ++ Y) = ivs X ++ ivs Y := by simp [ivs]
  rw [e]
  exact Sep.zAH hown fun g hg => hF.block g (hown.lt g hg).2 (by have := (hown.lt g hg).1; omega)
theorem zJS {W w1 : World} {n : Nat} (hn : n <= 4096) (hb : Below W.heap.size W w1) (hr : Bk W.heap.size #[.int .i64 0, .slice none 0 0] 101 w1) :
  JSt W w1.heap.size n [] (some ⟨w1.heap.size + 1, 0, none⟩) n ((w1.alloc (.cells #[.int .i64 (n : Int), .slice (some ⟨w1.heap.size + 1, 0, none⟩) 0 n] 101)).alloc (.cells (madeCells #[.int .i64 0] n) 3)) := by
 have b1 := boxed w1 (.cells #[.int .i64 (n : Int), .slice (some ⟨w1.heap.size + 1, 0, none⟩) 0 n] 101)
 have b2 := boxed (w1.alloc (.cells #[.int .i64 (n : Int), .slice (some ⟨w1.heap.size + 1, 0, none⟩) 0 n] 101)) (.cells (madeCells #[.int .i64 0] n) 3)
 refine ⟨Gr.step (Gr.step hb b1) b2, (hr.went b1).went b2, (Bk.new w1 _ _ _ rfl).went b2, ?_, hr.lt⟩
 have := World.ownsRow_made (w1.alloc (.cells #[.int .i64 (n : Int), .slice (some ⟨w1.heap.size + 1, 0, none⟩) 0 n] 101)) (e := 3) (base := w1.heap.size + 1) (size := 1) (madeCells #[.int .i64 0] n) n (by simp) (by unfold maxLen; omega) (by simp [size_madeCells])
 simpa [zDf, ivs] using this
theorem JSt.done {W : World} {q n : Nat} {X : List Int} {a : Option Addr} {c : Nat} {w : World} (k : JSt W q n X a c w) (x y : Value) :
  Sep.Reads a (ivs X) ((w.setCell ⟨W.heap.size, 0, none⟩ x).setCell ⟨W.heap.size, 1, none⟩ y) /\ New a W /\ Below W.heap.size W ((w.setCell ⟨W.heap.size, 0, none⟩ x).setCell ⟨W.heap.size, 1, none⟩ y) := by
 have hlo := k.lo
 have hF : Sep.Fr (fun i => i = W.heap.size) w ((w.setCell ⟨W.heap.size, 0, none⟩ x).setCell ⟨W.heap.size, 1, none⟩ y) :=
  ((Sep.Fr.refl (fun i => i = W.heap.size) w).setCell ⟨W.heap.size, 0, none⟩ rfl _).setCell ⟨W.heap.size, 1, none⟩ rfl _
 refine ⟨Sep.Reads.of_row (Sep.zAH k.t fun g hg => hF.block g (World.ownsRow.lt k.t g hg).2 (by have := (World.ownsRow.lt k.t g hg).1; omega)), Gr.zDU k.t (by omega), k.b.trans (hF.below (fun i hi => by omega) k.b.size)⟩
def JRel (T : Int -> Ans) (l : List Int) (W : World) (q n : Nat) (i : Value) (w : World) : Prop :=
 ∃ k : Nat, k <= l.length /\ i = .int .i64 k /\ ∃ a c, JSt W q n (flat T (l.take k)) a c w
theorem zGs (nl : Bool) (v : Value) (T : Int -> Ans) (l : List Int) (a : Option Addr) (c : Nat) (w : World) (h : VAt nl v T w) (hR : Sep.Reads a (ivs l) w) (hl : l.length <= 17592186044416) :
  Calls Tryz.prog 47 #[v, .slice a l.length c] w (Joined (J T l) w) := by
 obtain ⟨i0, hi, hz0, hz1, hz2⟩ := info_parts zAS
 have AT := zPB (fun s w1 (b : Below w.heap.size w w1) => zMV nl v T s w1 (h.went b))
 have RR := zPB (fun w1 (b : Below w.heap.size w w1) => Sep.Reads.below hR b (Nat.le_refl _))
 have TO := zPB (fun w1 (b : Below w.heap.size w w1) => zKg nl v T l a c w1 (h.went b) (RR.out _ b) hl)
 have TB := zPB h.bnd
 have bx := zPB (boxed w (.cells #[.int .i64 0, .slice none 0 0] 101))
 have Q0 := zPB (Bk.new w #[.int .i64 0, .slice none 0 0] 101 _ rfl)
 have hbd := zEq (zA1 T l)
 have hfd := zF6
 clear h hR
 by_cases hz : isA (J T l) = true
 ·have hle := (zJb (zA1 T l)).2 hz
  have FW := zPB (zFR hz)
  have FL := zPB (zLB hz)
  have hmk := fun w => zJh (lenA (J T l)) hle w
  clear hz
  generalize hJ : J T l = jj at *
  clear hJ
  generalize hN : lenA jj = n at *
  have NN := zPB hN
  clear hN
  go_enter Tryz.func47, Tryz.ntmps47
  go_wp2_with (go_at_call 76; refine (TO.out _ bx.out).mono ?_; rintro e w1 ⟨rfl, hb⟩; have B1 := zPB (Gr.step bx.out hb); have Q1 := zPB (Q0.out.went hb); have hq1 : w.heap.size < w1.heap.size := Q1.out.lt; clear hb)
  have ST := zPB (zJS hle B1.out Q1.out)
  generalize w1.heap.size = q at *
  clear hmk
  go_loopw [22] (fun i wr => JRel T l w q n i wr) (fun i _ => l.length - (intOf i).toNat)
  case atStart => exact ⟨0, Nat.zero_le _, rfl, _, _, ST.out⟩
  case round =>
   clear ST B1 Q1
   obtain ⟨k, hk, rfl, ga, gc, hJ⟩ := hrel
   have J1 := zPB hJ
   obtain ⟨v0, v1, vf⟩ := hJ.v.two
   obtain ⟨r0, r1, rf⟩ := hJ.r.two
   have hqr : q < wr.heap.size := hJ.v.lt
   have hwr : w.heap.size < wr.heap.size := hJ.r.lt
   have hlo := hJ.lo
   clear hJ
   by_cases hlt : k < l.length
   ·obtain ⟨b, o, rfl, hc⟩ := zAs (RR.out _ J1.out.b) hlt
    have FT := zPB (zI3 (T := T) hlt)
    have hXY : (flat T (l.take k)).length + (zAC (T l[k])).length <= 4096 := by
     have h1 := zM5 T l (k + 1)
     rw [FT.out, List.length_append, FL.out] at h1
     omega
    have AC := zPB (fun w1 (b : Below wr.heap.size wr w1) => AT.out l[k] w1 (Gr.step J1.out.b b))
    generalize T l[k] = t at *
    generalize l[k] = s at *
    generalize flat T (l.take k) = X at *
    generalize hY : zAC t = Y at *
    unfold zMU at AC
    rw [hY] at AC
    clear hY
    go_wp2
    have hbr := drawn wr
    go_region_law (first
     | (refine zAG _ (by rfl) _ _ 40 (by rfl) (q + 1) 3 i0 (.int .i64 0) 8 Tryz.underlying40 hi hz0 hz1 hz2 rfl (.slice ga X.length gc) X.length (ivs X) (by rfl) (J1.out.t.went kB) _ _ _ (ivs Y) (by rfl) (by simp [ivs]) hR3 (by simp [ivs, iv, Value.oneCell']) (by unfold maxLen; omega) (by omega) (by omega) ?_; intro v4 w4 hown4 hg4 _; obtain ⟨a4, c4, rfl⟩ := zAK hown4; have J4 := zPB (J1.out.put kB hown4 hg4); have V4 := zPB ((J1.out.v.went kB).grown hg4 (fun g hg => by have := (World.ownsRow.lt J1.out.t g hg).1; omega)); obtain ⟨y0, y1, yf⟩ := V4.out.two; have hq4 : q < w4.heap.size := V4.out.lt; clear hown4 hg4)
     | (go_simp; go_at_call 77; (with_reducible refine (AC.out _ (by assumption)).mono ?_); rintro e w3 ⟨ad, cc, rfl, hR3, hb⟩; have kB : Below wr.heap.size wr w3 := Gr.step (by assumption) hb; obtain ⟨v0, v1, vf⟩ := (J1.out.v.went kB).two; have hq3 : q < w3.heap.size := (J1.out.v.went kB).lt; clear hb))
    all_goals
     go_wp2
     go_roundw
     case rel => exact ⟨k + 1, by omega, by go_num, _, _, by rw [FT.out]; exact J4.out⟩
     case measure => simp [intOf]; omega
   ·have hE : k = l.length := by omega
    have XE := zPB (show flat T (l.take k) = zAC jj by rw [FW.out, hE, List.take_length])
    generalize flat T (l.take k) = X at *
    obtain rfl : X = zAC jj := XE.out
    obtain ⟨d1, d2, d3⟩ := J1.out.done (.int .i64 (n : Int)) (.slice ga (zAC jj).length gc)
    have D1 := zPB d1
    have D2 := zPB d2
    have D3 := zPB d3
    clear d1 d2 d3
    go_wp2
    try simp only [Exit.inBlock, Exit.then]
    exact bodyPost_ret (v := .agg #[.int .i64 (n : Int), .slice ga (zAC jj).length gc]) (by simp [results, Tryz.results47, go_sem, r0, r1]) rfl ⟨ga, gc, by rw [NN.out], D1.out, D2.out, D3.out⟩
 ·have hle : ¬ lenA (J T l) <= 4096 := fun k => hz ((zJb (zA1 T l)).1 k)
  have WN := zPB (zNA (Bool.eq_false_iff.2 hz))
  clear hz
  generalize hJ : J T l = jj at *
  clear hJ
  generalize hN : lenA jj = n at *
  have NN := zPB hN
  clear hN
  go_enter Tryz.func47, Tryz.ntmps47
  go_wp2_with (go_at_call 76; refine (TO.out _ bx.out).mono ?_; rintro e w1 ⟨rfl, hb⟩; have B1 := zPB (Gr.step bx.out hb); have Q1 := zPB (Q0.out.went hb); have hq1 : w.heap.size < w1.heap.size := Q1.out.lt; obtain ⟨r0, r1, rf⟩ := Q1.out.two; clear hb)
  have b2 := (((Below.refl w.heap.size w1).setCell (p := ⟨w.heap.size, 0, none⟩) (Nat.le_refl _) (.int .i64 (n : Int))).setCell (p := ⟨w.heap.size, 1, none⟩) (Nat.le_refl _) (.slice none 0 0)).alloc (by rw [Rw.zAf, Rw.zAf]; omega) (.cells #[.int .i64 (n : Int), .slice none 0 0] 101)
  try simp only [Exit.inBlock, Exit.then]
  exact bodyPost_ret (v := .agg #[.int .i64 (n : Int), .slice none 0 0]) (by simp [results, Tryz.results47, go_sem, r0, r1, hq1]) rfl ⟨none, 0, by rw [NN.out, WN.out]; rfl, by rw [WN.out]; exact .nil _ _, (fun x h => by cases h), B1.out.trans b2⟩
end Le
namespace Le
open Gr (step boxed ivs)
open Rw (Bk)
def zA3 (nl : Bool) (T : Int -> Ans) (l : List Int) : Ans := if nl = true then .none else J T l
def zKu (a : Ans) (w : World) (e : Ending) (w' : World) : Prop :=
 ∃ ad c, e = .returned (.tuple #[.slice ad (zAC a).length c, .bool (isA a)]) /\ Sep.Reads ad (ivs (zAC a)) w' /\ Below w.heap.size w w'
theorem zHX {v : Value} {x r : Bool} (h : x = r) : Ending.returned (.tuple #[v, .bool r]) = .returned (.tuple #[v, .bool x]) := by rw [h]
theorem zAP (w : World) (n : Nat) : Below w.heap.size w (w.drewN n) := ⟨rfl, rfl, rfl, Nat.le_refl _, fun _ _ => rfl⟩
theorem zLV (nl : Bool) (v : Value) (T : Int -> Ans) (l : List Int) (a : Option Addr) (c : Nat) (w : World) (h : VAt nl v T w) (hR : Sep.Reads a (ivs l) w) (hl : l.length <= 17592186044416) :
  Calls Tryz.prog 27 #[v, .slice a l.length c] w (zKu (zA3 nl T l) w) := by
 have JC := zPB (zGs nl v T l a c w h hR hl)
 rcases h with ⟨rfl, rfl, rfl⟩ | ⟨rfl, p, q, n, rfl, h⟩
 ·clear JC hR
  go_enter Tryz.func27, Tryz.ntmps27
  go_wp2
  go_ret2
  exact ⟨none, 0, rfl, .nil _ _, .refl _ _⟩
 ·have E := zPB (show zA3 false T l = J T l from if_neg (by decide))
  have LI := zPB (zJb (zA1 T l))
  rw [E.out]
  clear h hR E
  generalize J T l = j at *
  go_enter Tryz.func27, Tryz.ntmps27
  go_wp2_with (go_at_call 47; refine JC.out.mono ?_; rintro e w1 ⟨ad, ac, rfl, hR, hN, hb⟩)
  have bx := boxed w1 (.cells #[.int .i64 (lenA j : Int), .slice ad (zAC j).length ac] 101)
  have RR := zPB (Sep.Reads.below hR bx (Nat.le_refl _))
  have B1 := zPB (Gr.step hb bx)
  obtain ⟨y0, y1, yf⟩ := (Bk.new w1 #[.int .i64 (lenA j : Int), .slice ad (zAC j).length ac] 101 _ rfl).two
  have EB := zPB (show isA j = decide ((lenA j : Int) <= 4096) by rw [Bool.eq_iff_iff, decide_eq_true_iff, ← LI.out]; omega)
  clear hR hN hb bx
  go_quiet (fail)
  go_wp2
  go_ret2
  exact ⟨ad, ac, zHX EB.out, RR.out.below (zAP _ _) (Nat.le_refl _), Gr.step B1.out (zAP _ _)⟩
end Le
namespace Le
open Gr
open Rw (Bk)
structure Sml (G : Gram) : Prop where
 t : G.terms.length <= 120
 n : G.nons.length <= 120
 r : G.rules.length <= 300
 known : zAt G = true
 w : ∀ r ∈ G.rules, r.2.length <= 8
theorem zMc {G : Gram} (h : checkN G = 0) : Sml G := by
 obtain ⟨h1, _, _, h4, _, _⟩ := zAk h
 unfold zA7 at h1
 simp only [Bool.or_eq_false_iff, decide_eq_false_iff_not, List.any_eq_false, decide_eq_true_eq] at h1
 exact ⟨by omega, by omega, by omega, h4, fun r hr => by have := h1.2 r hr; omega⟩
theorem zHi {W w w' : World} {h : Sh} {G : Gram} {S : Nat -> Prop} (k : Bx W h G w) (hF : Sep.Fr S w w') (hS : ∀ k, S k -> W.heap.size < k) : Bx W h G w' := by
 have e : w'.heap[W.heap.size]? = w.heap[W.heap.size]? := hF.block _ (World.block_lt_of_cell? w ⟨W.heap.size, 0, none⟩ k.box.x0) (fun e => by have := hS _ e; omega)
 refine ⟨k.below.trans (hF.below (fun k hk => Nat.le_of_lt (hS k hk)) k.below.size), ?_⟩
 exact ⟨(World.cell?_of_block (a := ⟨W.heap.size, 0, none⟩) e).trans k.box.x0, (World.cell?_of_block (a := ⟨W.heap.size, 1, none⟩) e).trans k.box.x1,
  (World.cell?_of_block (a := ⟨W.heap.size, 2, none⟩) e).trans k.box.x2, (World.cell?_of_block (a := ⟨W.heap.size, 3, none⟩) e).trans k.box.x3⟩
theorem zJJ : (Tryz.prog.info? 101).map (fun i => (i.zero, i.size, i.bytes)) = some (some (.agg #[.int .i64 0, .slice none 0 0]), 2, 32) := by kernel_rfl
theorem zH1 (n : Nat) (hn : n <= 10000) (w : World) :
  (Instr.makeSlice 119 (.int .i64 (n : Int)) (.int .i64 (n : Int))).run Tryz.prog w = .ok (.slice (some ⟨w.heap.size, 0, none⟩) n n) (w.alloc (.cells (madeCells #[.int .i64 0, .slice none 0 0] (n * 2)) 101)) := by
 obtain ⟨i0, hi, hz0, hz1, hz2⟩ := info_parts zJJ
 have hr := run_make (P := Tryz.prog) w 119 101 i0 (.agg #[.int .i64 0, .slice none 0 0]) Tryz.underlying119 hi hz0 .i64 .i64 (n : Int) (n : Int) (by omega) (Int.le_refl _) (by rw [hz2]; omega) (by omega)
 simp only [Int.toNat_natCast, hz1] at hr
 exact hr
theorem zG3 (n s : Nat) (h : s < n) (a b : Value) : (madeCells #[a, b] (n * 2))[s * 2]? = some a /\ (madeCells #[a, b] (n * 2))[s * 2 + 1]? = some b := by
 have e1 : s * 2 < n * 2 := by omega
 have e2 : s * 2 + 1 < n * 2 := by omega
 constructor
 ·simp [madeCells, e1]
 ·simp [madeCells, e2, Nat.add_mod]
def zBg (G : Gram) (j : Nat) : Int -> Ans := fun s => if 0 <= s /\ s < (j : Int) then tab0 G s else .is []
theorem zIT (G : Gram) (s : Int) : zBg G 0 s = .is [] := if_neg (by omega)
theorem zDY (G : Gram) (j : Nat) : setA (zBg G j) (j : Int) (tab0 G (j : Int)) = zBg G (j + 1) := by
 funext s
 by_cases e : s = (j : Int)
 ·subst e
  rw [zAq]
  unfold zBg
  rw [if_pos (by omega)]
 ·rw [zAT _ _ e]
  unfold zBg
  by_cases h : 0 <= s /\ s < (j : Int)
  ·rw [if_pos h, if_pos (by omega)]
  ·rw [if_neg h, if_neg (by omega)]
theorem zIS (G : Gram) {j : Nat} (h : tab0 G (j : Int) = .is []) : zBg G j = zBg G (j + 1) := by
 rw [← zDY, h]
 funext s
 by_cases e : s = (j : Int)
 ·subst e
  rw [zAq]
  unfold zBg
  rw [if_neg (by omega)]
 ·rw [zAT _ _ e]
theorem zKZ {G : Gram} {s : Int} (h : zBS G s = true) : tab0 G s = .is [s] := by
 have := zAR.1 h
 unfold tab0
 rw [if_neg (by omega), if_pos h]
theorem zMI {G : Gram} {s : Int} (h : nonB G s = true) : tab0 G s = .none := by
 have h1 := zAY.1 h
 have h2 : ¬ zBS G s = true := fun k => by have := zAR.1 k; omega
 unfold tab0
 rw [if_neg (by omega), if_neg h2]
theorem zMK (G : Gram) : TOk (top G + 1) (tab0 G) := by
 refine ⟨fun s hs => ?_, fun s x hx => ?_⟩
 ·have h2 : ¬ zBS G s = true := fun k => by have := zAR.1 k; unfold top at hs; omega
  unfold tab0
  rw [if_neg (by omega), if_neg h2]
 ·unfold tab0 at hx
  split at hx
  ·injection hx with hx; subst hx; exact Nat.zero_le _
  ·split at hx
   ·injection hx with hx; subst hx; simp
   ·cases hx
theorem LAt.congr {q n : Nat} {T U : Int -> Ans} {w : World} (h : LAt q n T w) (e : ∀ s : Nat, s < n -> T (s : Int) = U (s : Int)) : LAt q n U w :=
 ⟨fun s hs => by rw [← e s hs]; exact h.len s hs, fun s hs => by rw [← e s hs]; exact h.word s hs, h.free, h.lt⟩
theorem zNI (n : Nat) (w : World) (T : Int -> Ans) (hT : ∀ s : Nat, s < n -> T (s : Int) = .is []) : LAt w.heap.size n T (w.alloc (.cells (madeCells #[.int .i64 0, .slice none 0 0] (n * 2)) 101)) := by
 have B := Bk.new w (madeCells #[.int .i64 0, .slice none 0 0] (n * 2)) 101 _ rfl
 refine ⟨fun s hs => ?_, fun s hs => ⟨_, B.cell (zG3 n s hs _ _).2, ?_⟩, fun j => B.free j, B.lt⟩
 ·rw [hT s hs]
  exact B.cell (zG3 n s hs _ _).1
 ·rw [hT s hs]
  exact zKo _ _
theorem LAt.put_one {q n : Nat} {T : Int -> Ans} {w : World} (h : LAt q n T w) {s : Nat} (hs : s < n) (x : Int) :
  LAt q n (setA T (s : Int) (.is [x])) (((w.setCell ⟨q, s * 2, none⟩ (.int .i64 1)).setCell ⟨q, s * 2 + 1, none⟩ (.slice (some ⟨w.heap.size, 0, none⟩) 1 1)).alloc (.cells #[.int .i64 x] 3)) := by
 have b := boxed w (.cells #[.int .i64 x] 3)
 have B := Bk.new w #[.int .i64 x] 3 _ rfl
 have hv : WAt q [x] (.slice (some ⟨w.heap.size, 0, none⟩) 1 1) (w.alloc (.cells #[.int .i64 x] 3)) := by
  refine ⟨_, 1, rfl, fun i hi => ⟨w.heap.size, 0, rfl, ?_⟩, fun b o e _ => ?_⟩
  ·have : i = 0 := by simp [ivs] at hi; omega
   subst this
   exact B.cell rfl
  ·injection e with e
   injection e with e
   have := h.lt
   omega
 have := (h.went b).set hs (a := .is [x]) hv
 rw [World.setCell_alloc_past _ _ _ _ h.lt, World.setCell_alloc_past _ _ _ _ (by rw [Rw.zAf]; exact h.lt)] at this
 exact this
structure LSt (W : World) (h : Sh) (G : Gram) (q n : Nat) (T : Int -> Ans) (w : World) : Prop where
 x : Bx W h G w
 l : LAt q n T w
 lo : W.heap.size < q
theorem LSt.went {W : World} {h : Sh} {G : Gram} {q n : Nat} {T : Int -> Ans} {w w' : World} (k : LSt W h G q n T w) (hb : Below w.heap.size w w') : LSt W h G q n T w' := ⟨k.x.went hb, k.l.went hb, k.lo⟩
theorem LSt.fr {W : World} {h : Sh} {G : Gram} {q n : Nat} {T U : Int -> Ans} {w w' : World} (k : LSt W h G q n T w) (hF : Sep.Fr (fun i => i = q) w w') (hl : LAt q n U w') : LSt W h G q n U w' :=
 ⟨zHi k.x hF fun i hi => by have := k.lo; omega, hl, k.lo⟩
theorem LSt.one {W : World} {h : Sh} {G : Gram} {q n : Nat} {T : Int -> Ans} {w : World} (k : LSt W h G q n T w) {s : Nat} (hs : s < n) (x : Int) :
  LSt W h G q n (setA T (s : Int) (.is [x])) (((w.setCell ⟨q, s * 2, none⟩ (.int .i64 1)).setCell ⟨q, s * 2 + 1, none⟩ (.slice (some ⟨w.heap.size, 0, none⟩) 1 1)).alloc (.cells #[.int .i64 x] 3)) :=
 k.fr ((((Sep.Fr.refl (fun i => i = q) w).setCell ⟨q, s * 2, none⟩ rfl _).setCell ⟨q, s * 2 + 1, none⟩ rfl _).alloc _) (k.l.put_one hs x)
theorem LSt.gone {W : World} {h : Sh} {G : Gram} {q n : Nat} {T : Int -> Ans} {w : World} (k : LSt W h G q n T w) {s : Nat} (hs : s < n) :
  LSt W h G q n (setA T (s : Int) .none) ((w.setCell ⟨q, s * 2, none⟩ (.int .i64 4098)).setCell ⟨q, s * 2 + 1, none⟩ (.slice none 0 0)) :=
 k.fr (((Sep.Fr.refl (fun i => i = q) w).setCell ⟨q, s * 2, none⟩ rfl _).setCell ⟨q, s * 2 + 1, none⟩ rfl _) (k.l.set hs (a := .none) (zKo _ _))
def zOp (W : World) (h : Sh) (G : Gram) (q n : Nat) (i : Value) (w : World) : Prop :=
 ∃ j : Nat, j <= n /\ i = .int .i64 j /\ LSt W h G q n (zBg G j) w
def zMT (n : Nat) (T : Int -> Ans) (w : World) (e : Ending) (w' : World) : Prop :=
 ∃ p q, e = .returned (.pointer (some ⟨p, 0, none⟩)) /\ TAt p q n T w' /\ w.heap.size <= p /\ w.heap.size <= q /\ Below w.heap.size w w'
theorem zHv (h : Sh) (G : Gram) (w : World) (k : GAt h G w) (hs : Sml G) :
  Calls Tryz.prog 42 #[gv h G] w (zMT (top G + 1) (tab0 G) w) := by
 have X := zPB (Bx.start h G w 25)
 obtain ⟨x0, x1, x2, x3⟩ := X.out.box
 have T1 := zPB (fun w1 (b : Below w.heap.size w w1) => zBf h G w1 (k.went b))
 have TE := zPB (fun s w1 (b : Below w.heap.size w w1) => zHS h G s w1 (k.went b))
 have NO := zPB (fun s w1 (b : Below w.heap.size w w1) => zGL h G s w1 (k.went b))
 have ht := hs.t
 have hn := hs.n
 have htop : top G <= 240 := by unfold top; omega
 have TP := zPB (show top G = G.terms.length + G.nons.length from rfl)
 have hmk := fun w => show (Instr.makeSlice 119 (.int .i64 ((top G : Int) + 1)) (.int .i64 ((top G : Int) + 1))).run Tryz.prog w = _ from zH1 (top G + 1) (by omega) w
 have TK := zPB (zMK G)
 clear k hs
 generalize top G = tp at *
 unfold gv
 go_enter Tryz.func42, Tryz.ntmps42
 go_wp2_with (first
  | (go_at_call 70; refine (T1.out _ X.out.below).mono ?_; rintro e w1 ⟨rfl, hb⟩; have X1 := zPB (X.out.went hb); clear hb))
 have hq1 : w.heap.size < w1.heap.size := X1.out.size
 have L0 := zPB (show LSt w h G w1.heap.size (tp + 1) (zBg G 0) (w1.alloc (.cells (madeCells #[.int .i64 0, .slice none 0 0] ((tp + 1) * 2)) 101)) from
  ⟨X1.out.alloc _, zNI (tp + 1) w1 (zBg G 0) (fun s _ => zIT G _), hq1⟩)
 generalize w1.heap.size = q at *
 clear hmk
 go_loopw [11] (fun i wr => zOp w h G q (tp + 1) i wr) (fun i _ => tp + 1 - (intOf i).toNat)
 case atStart => exact ⟨0, Nat.zero_le _, rfl, L0.out⟩
 case round =>
  clear L0 X1 X
  obtain ⟨j, hj, rfl, hL⟩ := hrel
  have L := zPB hL
  clear hL
  obtain ⟨x0, x1, x2, x3⟩ := L.out.x.box
  by_cases hlt : j < tp + 1
  ·have TC := zPB (TE.out (j : Int) _ L.out.x.below)
   have hql : q < wr.heap.size := L.out.l.lt
   by_cases htm : zBS G (j : Int) = true
   ·have S1 := zPB (show setA (zBg G j) (j : Int) (.is [(j : Int)]) = zBg G (j + 1) by rw [← zDY, zKZ htm])
    rw [htm] at TC
    clear htm
    go_wp2_with (first
     | (go_at_call 71; refine TC.out.mono ?_; rintro e w2 ⟨rfl, hb⟩; have L2 := zPB (L.out.went hb); clear hb hql; have hql : q < w2.heap.size := L2.out.l.lt; have c0 := L2.out.l.len j hlt; obtain ⟨u, c1, _⟩ := L2.out.l.word j hlt; have cf := L2.out.l.free))
    have L3 := zPB (L2.out.one hlt (j : Int))
    rw [S1.out] at L3
    go_roundw
    case rel => exact ⟨j + 1, by omega, by go_num, L3.out⟩
    case measure => simp [intOf]; omega
   ·have NC := zPB (fun w1 (b : Below wr.heap.size wr w1) => NO.out (j : Int) w1 (Gr.step L.out.x.below b))
    by_cases hnn : nonB G (j : Int) = true
    ·have S1 := zPB (show setA (zBg G j) (j : Int) .none = zBg G (j + 1) by rw [← zDY, zMI hnn])
     rw [Bool.eq_false_iff.2 htm] at TC
     rw [hnn] at NC
     clear htm hnn
     go_wp2_with (first
      | (go_at_call 71; refine TC.out.mono ?_; rintro e w2 ⟨rfl, hb⟩; have L2 := zPB (L.out.went hb); have B2 := zPB hb; clear hb x0 x1 x2 x3; obtain ⟨x0, x1, x2, x3⟩ := L2.out.x.box)
      | (go_at_call 72; refine (NC.out _ B2.out).mono ?_; rintro e w3 ⟨rfl, hb⟩; have L3 := zPB (L2.out.went hb); clear hb hql; have hql : q < w3.heap.size := L3.out.l.lt; have c0 := L3.out.l.len j hlt; obtain ⟨u, c1, _⟩ := L3.out.l.word j hlt; have cf := L3.out.l.free))
     have L4 := zPB (L3.out.gone hlt)
     rw [S1.out] at L4
     go_roundw
     case rel => exact ⟨j + 1, by omega, by go_num, L4.out⟩
     case measure => simp [intOf]; omega
    ·have S1 := zPB (show zBg G j = zBg G (j + 1) from zIS G (by
      have h0 : (j : Int) = 0 := by
       rw [zAR] at htm
       rw [zAY] at hnn
       have := TP.out
       omega
      rw [h0]
      rfl))
     rw [Bool.eq_false_iff.2 htm] at TC
     rw [Bool.eq_false_iff.2 hnn] at NC
     clear htm hnn
     go_wp2_with (first
      | (go_at_call 71; refine TC.out.mono ?_; rintro e w2 ⟨rfl, hb⟩; have L2 := zPB (L.out.went hb); have B2 := zPB hb; clear hb x0 x1 x2 x3; obtain ⟨x0, x1, x2, x3⟩ := L2.out.x.box)
      | (go_at_call 72; refine (NC.out _ B2.out).mono ?_; rintro e w3 ⟨rfl, hb⟩; have L3 := zPB (L2.out.went hb); clear hb))
     rw [S1.out] at L3
     go_roundw
     case rel => exact ⟨j + 1, by omega, by go_num, L3.out⟩
     case measure => simp [intOf]; omega
  ·have hE : j = tp + 1 := by omega
   have bp := boxed wr (.cells #[.slice (some ⟨q, 0, none⟩) (tp + 1) (tp + 1)] 122)
   have E := zPB (show zMT (tp + 1) (tab0 G) w (.returned (.pointer (some ⟨wr.heap.size, 0, none⟩))) (wr.alloc (.cells #[.slice (some ⟨q, 0, none⟩) (tp + 1) (tp + 1)] 122)) from
    ⟨wr.heap.size, q, rfl, ⟨(Bk.new wr _ _ _ rfl).cell rfl, (L.out.l.congr fun s hs => by rw [hE]; unfold zBg; rw [if_pos (by omega)]).went bp, by have := L.out.l.lt; omega, by omega, TK.out⟩, L.out.x.below.size, by have := L.out.lo; omega, Gr.step L.out.x.below bp⟩)
   clear hE bp
   go_wp2
   go_ret
   exact E.out
end Le
namespace Le
open Gr (Is step ivs zAs zAA)
theorem zNm {v w : List Int} {k : Nat} (hv : k < v.length) (hw : k < w.length) (e : v[k] ≠ w[k]) : v ≠ w := fun h => by
 subst h
 exact e rfl
theorem zC1 (X Y : List Int) (a b : Option Addr) (c d : Nat) (w : World) (hX : Sep.Reads a (ivs X) w) (hY : Sep.Reads b (ivs Y) w) (hm : X.length <= 100000) (hm2 : Y.length <= 100000) :
  Calls Tryz.prog 16 #[.slice a X.length c, .slice b Y.length d] w (Is (.bool (decide (X = Y))) w) := by
 by_cases hl : X.length = Y.length
 ·have HX := zPB (fun w1 (bb : Below w.heap.size w w1) => Sep.Reads.below hX bb (Nat.le_refl _))
  have HY := zPB (fun w1 (bb : Below w.heap.size w w1) => Sep.Reads.below hY bb (Nat.le_refl _))
  have HL := zPB hl
  rw [← hl]
  clear hX hY hl hm2
  go_enter Tryz.func16, Tryz.ntmps16
  go_wp2
  go_loopw [5] (fun i wr => ∃ k : Nat, k <= X.length /\ i = .int .i64 k /\ zAp X Y k /\ Below w.heap.size w wr) (fun i _ => X.length - (intOf i).toNat)
  case atStart => exact ⟨0, Nat.zero_le _, rfl, zBs _ _, .refl _ _⟩
  case round =>
   obtain ⟨k, hk, rfl, hS, hB⟩ := hrel
   have S := zPB hS
   have B := zPB hB
   clear hS hB
   by_cases hlt : k < X.length
   ·have hlt2 : k < Y.length := by rw [← HL.out]; exact hlt
    obtain ⟨b1, o1, e1, hc1⟩ := zAs (HX.out _ B.out) hlt
    obtain ⟨b2, o2, e2, hc2⟩ := zAs (HY.out _ B.out) hlt2
    have NS := zPB (fun he => zBr S.out hlt hlt2 he)
    have NE := zPB (fun he => zNm hlt hlt2 he)
    generalize X[k] = x at *
    generalize Y[k] = y at *
    subst e1 e2
    have i0 : (0 : Int) <= (k : Int) := by omega
    have i1 : (k : Int) < (X.length : Int) := by omega
    by_cases hxy : x = y
    ·have S2 := zPB (NS.out hxy)
     have hb : (x != y) = false := by simpa using hxy
     clear hxy NS NE hlt2
     go_wp2
     go_quiet (fail)
     go_wp2
     go_roundw
     case rel => exact ⟨k + 1, by omega, by go_num, S2.out, Gr.step B.out (zAP _ _)⟩
     case measure => simp [intOf]; omega
    ·have E := zPB (decide_eq_false (NE.out hxy))
     have hb : (x != y) = true := by simpa using hxy
     clear hxy NS NE hlt2
     go_wp2
     go_quiet (fail)
     go_wp2
     go_ret
     exact ⟨zAA E.out, Gr.step B.out (zAP _ _)⟩
   ·have E := zPB (decide_eq_true (zCW S.out hlt HL.out))
    go_wp2
    go_ret
    exact ⟨zAA E.out, B.out⟩
 ·have E := zPB (show decide (X = Y) = false from decide_eq_false fun e => hl (by rw [e]))
  have hb : ((X.length : Int) != (Y.length : Int)) = true := by simp; omega
  clear hX hY hl
  generalize decide (X = Y) = ans at *
  generalize X.length = n at *
  generalize Y.length = m at *
  go_enter Tryz.func16, Tryz.ntmps16
  go_wp2
  go_ret
  exact ⟨zAA E.out, .refl _ _⟩
end Le
namespace Le
open Gr
open Rw (Bk)
structure Col (q n : Nat) (f : Nat -> Value) (w : World) : Prop where
 at_ : ∀ s : Nat, s < n -> w.cell? ⟨q, s, none⟩ = some (f s)
 free : ∀ j : Nat, w.frozen? ⟨q, j, none⟩ = false
 lt : q < w.heap.size
theorem Col.block {q n : Nat} {f : Nat -> Value} {w w' : World} (h : Col q n f w) (hb : w'.heap[q]? = w.heap[q]?) (hs : w.heap.size <= w'.heap.size) : Col q n f w' :=
 ⟨fun s hs => (World.cell?_of_block (a := ⟨q, s, none⟩) hb).trans (h.at_ s hs), fun x => (World.frozen?_of_block (a := ⟨q, x, none⟩) hb).trans (h.free x), Nat.lt_of_lt_of_le h.lt hs⟩
theorem Col.fr {q n : Nat} {f : Nat -> Value} {w w' : World} {S : Nat -> Prop} (h : Col q n f w) (hF : Sep.Fr S w w') (hS : ¬ S q) : Col q n f w' := h.block (hF.block q h.lt hS) hF.size
theorem Col.went {q n : Nat} {f : Nat -> Value} {w w' : World} (h : Col q n f w) (hb : Below w.heap.size w w') : Col q n f w' := h.fr (S := fun _ => False) (Sep.Fr.of_below hb) id
theorem Col.off {q n p i : Nat} {f : Nat -> Value} {w : World} (h : Col q n f w) (hp : q ≠ p) (u : Value) : Col q n f (w.setCell ⟨p, i, none⟩ u) :=
 h.fr ((Sep.Fr.refl (fun k => k = p) w).setCell ⟨p, i, none⟩ rfl u) hp
theorem Col.set {q n : Nat} {f : Nat -> Value} {w : World} (h : Col q n f w) {s : Nat} (hs : s < n) (v : Value) : Col q n (fun t => if t = s then v else f t) (w.setCell ⟨q, s, none⟩ v) := by
 refine ⟨fun t ht => ?_, fun x => by rw [World.frozen?_setCell]; exact h.free x, by rw [Rw.zAf]; exact h.lt⟩
 by_cases e : t = s
 ·subst e
  rw [if_pos rfl]
  exact World.cell?_setCell_same _ _ _ (h.at_ t ht)
 ·rw [if_neg e, World.cell?_setCell_other _ _ _ _ (fun e2 => e (congrArg Addr.off e2).symm)]
  exact h.at_ t ht
theorem Col.congr {q n : Nat} {f g : Nat -> Value} {w : World} (h : Col q n f w) (e : ∀ s, s < n -> f s = g s) : Col q n g w := ⟨fun s hs => by rw [← e s hs]; exact h.at_ s hs, h.free, h.lt⟩
theorem zJg (n k : Nat) (h : k < n) (z : Value) : (madeCells #[z] n)[k]? = some z := by
 simp [madeCells, h, Nat.mod_one]
theorem zF3 (n : Nat) (z : Value) (T : TypeId) (w : World) : Col w.heap.size n (fun _ => z) (w.alloc (.cells (madeCells #[z] n) T)) := by
 have B := Bk.new w (madeCells #[z] n) T _ rfl
 exact ⟨fun s hs => B.cell (zJg n s hs z), fun j => B.free j, B.lt⟩
theorem zB1 (w : World) (p q i j : Nat) (u v : Value) (h : p ≠ q) : (w.setCell ⟨p, i, none⟩ u).setCell ⟨q, j, none⟩ v = (w.setCell ⟨q, j, none⟩ v).setCell ⟨p, i, none⟩ u := by
 unfold World.setCell
 congr 1
 refine Array.ext (by simp) fun k h1 h2 => ?_
 simp only [Array.getElem_modify]
 by_cases e1 : p = k
 ·have e2 : ¬ q = k := by omega
  simp [e1, e2]
 ·simp [e1]
def WHi (hi : Nat) (x : List Int) (v : Value) (w : World) : Prop := ∃ a c, v = .slice a x.length c /\ Sep.Reads a (ivs x) w /\ ∀ b o, a = some ⟨b, o, none⟩ -> x ≠ [] -> hi <= b
theorem WHi.fr {hi : Nat} {x : List Int} {v : Value} {w w' : World} {S : Nat -> Prop} (h : WHi hi x v w) (hF : Sep.Fr S w w') (hS : ∀ k, S k -> k < hi \/ w.heap.size <= k) : WHi hi x v w' := by
 obtain ⟨a, c, rfl, hR, hq⟩ := h
 refine ⟨a, c, rfl, fun i hi => ?_, hq⟩
 obtain ⟨b, o, e, hc⟩ := hR i hi
 refine ⟨b, o, e, hF.cell hc fun hs => ?_⟩
 have hl := World.block_lt_of_cell? w ⟨b, o + i, none⟩ hc
 have hn : x ≠ [] := fun e => by subst e; simp [ivs] at hi
 have := hq b o e hn
 rcases hS _ hs with h1 | h1
 ·simp at h1
  omega
 ·simp at hl h1
  omega
theorem WHi.went {hi : Nat} {x : List Int} {v : Value} {w w' : World} (h : WHi hi x v w) (hb : Below w.heap.size w w') : WHi hi x v w' :=
 h.fr (S := fun _ => False) (Sep.Fr.of_below hb) fun _ k => k.elim
theorem zN4 (hi : Nat) (w : World) : WHi hi [] (.slice none 0 0) w := ⟨none, 0, rfl, .nil _ _, fun _ _ _ h => absurd rfl h⟩
structure RAt (p q1 q2 q3 hi n : Nat) (T : Int -> Ans) (f : Nat -> Value) (w : World) : Prop where
 box : Bk p #[.slice (some ⟨q1, 0, none⟩) n n, .slice (some ⟨q2, 0, none⟩) n n, .slice (some ⟨q3, 0, none⟩) n n] 96 w
 c1 : Col q1 n f w
 c2 : Col q2 n (fun s => .bool (hasA (T (s : Int)))) w
 c3 : Col q3 n (fun s => .bool (farA (T (s : Int)))) w
 word : ∀ s : Nat, s < n -> WHi hi (zAC (T (s : Int))) (f s) w
 hp : p < hi
 h1 : q1 < hi
 h2 : q2 < hi
 h3 : q3 < hi
 hw : hi <= w.heap.size
 p1 : p ≠ q1
 p2 : p ≠ q2
 p3 : p ≠ q3
 d12 : q1 ≠ q2
 d13 : q1 ≠ q3
 d23 : q2 ≠ q3
 small : n <= 10000
 ok : TOk n T
section
variable {p q1 q2 q3 hi n : Nat} {T : Int -> Ans} {f : Nat -> Value} {w w' : World}
theorem RAt.went (h : RAt p q1 q2 q3 hi n T f w) (hb : Below w.heap.size w w') : RAt p q1 q2 q3 hi n T f w' :=
 ⟨h.box.went hb, h.c1.went hb, h.c2.went hb, h.c3.went hb, fun s hs => (h.word s hs).went hb, h.hp, h.h1, h.h2, h.h3, Nat.le_trans h.hw hb.size, h.p1, h.p2, h.p3, h.d12, h.d13, h.d23, h.small, h.ok⟩
theorem RAt.fr {S : Nat -> Prop} (h : RAt p q1 q2 q3 hi n T f w) (hF : Sep.Fr S w w') (hp : ¬ S p) (h1 : ¬ S q1) (h2 : ¬ S q2) (h3 : ¬ S q3) (hS : ∀ k, S k -> k < hi \/ w.heap.size <= k) : RAt p q1 q2 q3 hi n T f w' :=
 ⟨h.box.fr hF hp, h.c1.fr hF h1, h.c2.fr hF h2, h.c3.fr hF h3, fun s hs => (h.word s hs).fr hF hS, h.hp, h.h1, h.h2, h.h3, Nat.le_trans h.hw hF.size, h.p1, h.p2, h.p3, h.d12, h.d13, h.d23, h.small, h.ok⟩
theorem RAt.set (h : RAt p q1 q2 q3 hi n T f w) {s : Nat} (hs : s < n) {a : Ans} (ha : Bd a) {v : Value} (hv : WHi hi (zAC a) v w) :
  RAt p q1 q2 q3 hi n (setA T (s : Int) a) (fun t => if t = s then v else f t) (((w.setCell ⟨q1, s, none⟩ v).setCell ⟨q2, s, none⟩ (.bool (hasA a))).setCell ⟨q3, s, none⟩ (.bool (farA a))) := by
 have hF : Sep.Fr (fun k => k = q1 \/ k = q2 \/ k = q3) w (((w.setCell ⟨q1, s, none⟩ v).setCell ⟨q2, s, none⟩ (.bool (hasA a))).setCell ⟨q3, s, none⟩ (.bool (farA a))) :=
  (((Sep.Fr.refl (fun k => k = q1 \/ k = q2 \/ k = q3) w).setCell ⟨q1, s, none⟩ (.inl rfl) _).setCell ⟨q2, s, none⟩ (.inr (.inl rfl)) _).setCell ⟨q3, s, none⟩ (.inr (.inr rfl)) _
 have k1 := h.h1
 have k2 := h.h2
 have k3 := h.h3
 have hS : ∀ k, (k = q1 \/ k = q2 \/ k = q3) -> k < hi \/ w.heap.size <= k := fun k hk => .inl (by omega)
 have cg : ∀ (g : Ans -> Bool) (t : Nat), (if t = s then Value.bool (g a) else .bool (g (T (t : Int)))) = .bool (g (setA T (s : Int) a (t : Int))) := fun g t => by
  by_cases e : t = s
  ·subst e
   rw [if_pos rfl, zAq]
  ·rw [if_neg e, zAT _ _ (by omega)]
 refine ⟨h.box.fr hF (by have := h.p1; have := h.p2; have := h.p3; omega), ((h.c1.set hs v).off h.d12 _).off h.d13 _, (((h.c2.off (Ne.symm h.d12) _).set hs _).off h.d23 _).congr fun t _ => cg hasA t, (((h.c3.off (Ne.symm h.d13) _).off (Ne.symm h.d23) _).set hs _).congr fun t _ => cg farA t,
  fun t ht => ?_, h.hp, k1, k2, k3, by rw [Rw.zAf, Rw.zAf, Rw.zAf]; exact h.hw, h.p1, h.p2, h.p3, h.d12, h.d13, h.d23, h.small, h.ok.set (by omega) (by omega) ha⟩
 by_cases e : t = s
 ·subst e
  rw [if_pos rfl, zAq]
  exact hv.fr hF hS
 ·rw [if_neg e, zAT _ _ (by omega)]
  exact (h.word t ht).fr hF hS
end
def RVAt (nl : Bool) (v : Value) (T : Int -> Ans) (w : World) : Prop :=
 (nl = true /\ v = .pointer none /\ T = fun _ => .none) \/ (nl = false /\ ∃ p q1 q2 q3 hi n f, v = .pointer (some ⟨p, 0, none⟩) /\ RAt p q1 q2 q3 hi n T f w)
theorem RVAt.went {nl : Bool} {v : Value} {T : Int -> Ans} {w w' : World} (h : RVAt nl v T w) (hb : Below w.heap.size w w') : RVAt nl v T w' := by
 rcases h with ⟨h1, h2, h3⟩ | ⟨h1, p, q1, q2, q3, hi, n, f, h2, h3⟩
 ·exact .inl ⟨h1, h2, h3⟩
 ·exact .inr ⟨h1, p, q1, q2, q3, hi, n, f, h2, h3.went hb⟩
theorem zDS (X Y : List Int) (a b : Option Addr) (c d : Nat) (w : World) (hX : Sep.Reads a (ivs X) w) (hY : Sep.Reads b (ivs Y) w) (hm : X.length <= 100000) (hm2 : Y.length <= 100000) :
  Calls Tryz.prog 75 #[.slice a X.length c, .slice b Y.length d] w (Is (.bool (zAy X Y)) w) := by
 by_cases hl : X.length = Y.length
 ·have HX := zPB (fun w1 (bb : Below w.heap.size w w1) => Sep.Reads.below hX bb (Nat.le_refl _))
  have HY := zPB (fun w1 (bb : Below w.heap.size w w1) => Sep.Reads.below hY bb (Nat.le_refl _))
  have HL := zPB hl
  have E := zPB (show zAy X Y = lexB X Y from if_pos hl)
  rw [E.out, ← hl]
  clear hX hY hl E hm2
  go_enter Tryz.func75, Tryz.ntmps75
  go_wp2
  go_loopw [5] (fun i wr => ∃ k : Nat, k <= X.length /\ i = .int .i64 k /\ zAp X Y k /\ Below w.heap.size w wr) (fun i _ => X.length - (intOf i).toNat)
  case atStart => exact ⟨0, Nat.zero_le _, rfl, zBs _ _, .refl _ _⟩
  case round =>
   obtain ⟨k, hk, rfl, hS, hB⟩ := hrel
   have S := zPB hS
   have B := zPB hB
   clear hS hB
   by_cases hlt : k < X.length
   ·have hlt2 : k < Y.length := by rw [← HL.out]; exact hlt
    obtain ⟨b1, o1, e1, hc1⟩ := zAs (HX.out _ B.out) hlt
    obtain ⟨b2, o2, e2, hc2⟩ := zAs (HY.out _ B.out) hlt2
    have NS := zPB (fun he => zBr S.out hlt hlt2 he)
    have NE := zPB (fun he => zJc S.out hlt hlt2 he)
    generalize X[k] = x at *
    generalize Y[k] = y at *
    subst e1 e2
    have i0 : (0 : Int) <= (k : Int) := by omega
    have i1 : (k : Int) < (X.length : Int) := by omega
    by_cases hxy : x = y
    ·have S2 := zPB (NS.out hxy)
     have hb : (x != y) = false := by simpa using hxy
     clear hxy NS NE hlt2
     go_wp2
     go_quiet (fail)
     go_wp2
     go_roundw
     case rel => exact ⟨k + 1, by omega, by go_num, S2.out, Gr.step B.out (zAP _ _)⟩
     case measure => simp [intOf]; omega
    ·have E := zPB (NE.out hxy)
     have hb : (x != y) = true := by simpa using hxy
     clear hxy NS NE hlt2
     go_wp2
     go_quiet (fail)
     go_wp2
     go_quiet (fail)
     go_wp2
     go_ret
     exact ⟨zAA E.out, Gr.step B.out (Gr.step (zAP _ _) (zAP _ _))⟩
   ·have E := zPB (show lexB X Y = false from by rw [zCW S.out hlt HL.out]; exact zEt Y)
    go_wp2
    go_ret
    exact ⟨zAA E.out, B.out⟩
 ·have E := zPB (show zAy X Y = decide (X.length < Y.length) from if_neg hl)
  have hb : ((X.length : Int) != (Y.length : Int)) = true := by simp; omega
  clear hX hY hl
  generalize zAy X Y = ans at *
  generalize X.length = n at *
  generalize Y.length = m at *
  go_enter Tryz.func75, Tryz.ntmps75
  go_wp2
  go_ret
  exact ⟨zAA E.out, .refl _ _⟩
