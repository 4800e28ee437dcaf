/- A part of the proof. -/
import Derived.Test.YtnfbjlainpenaaaGreatPk20
import Derived.Test.YtnfbjlainpenaaaGreatPk13
set_option maxHeartbeats 8000000
set_option maxRecDepth 100000
set_option linter.unusedVariables false
namespace Go.Proofs.YtnfbjlainpenaaaGreat
namespace Le
open Go.RowKit Go.Maps
open Gr
open Rw (Bk)
structure Sml (G : Gram) : Prop where
 t : G.terms.length <= 120
 n : G.nons.length <= 120
 r : G.rules.length <= 300
 known : zAl G = true
 w : ∀ r ∈ G.rules, r.2.length <= 8
theorem zM2 {G : Gram} (h : checkN G = 0) : Sml G := by
 obtain ⟨h1, _, _, h4, _, _⟩ := zAc h
 unfold zAv at h1
 simp only [Bool.or_eq_false_iff, decide_eq_false_iff_not, List.any_eq_false, decide_eq_true_eq] at h1
 exact ⟨by omega, by omega, by omega, h4, fun r hr => by have := h1.2 r hr; omega⟩
theorem zHp {W w w' : World} {h : Sh} {G : Gram} {S : Nat -> Prop} (k : Bx W h G w) (hF : Sep.Fr S w w') (hS : ∀ k, S k -> W.heap.size < k) : Bx W h G w' := by
 have e : w'.heap[W.heap.size]? = w.heap[W.heap.size]? := hF.block _ (World.block_lt_of_cell? w ⟨W.heap.size, 0, none⟩ k.box.x0) (fun e => by have := hS _ e; omega)
 refine ⟨k.below.trans (hF.below (fun k hk => Nat.le_of_lt (hS k hk)) k.below.size), ?_⟩
 exact ⟨(World.cell?_of_block (a := ⟨W.heap.size, 0, none⟩) e).trans k.box.x0, (World.cell?_of_block (a := ⟨W.heap.size, 1, none⟩) e).trans k.box.x1,
  (World.cell?_of_block (a := ⟨W.heap.size, 2, none⟩) e).trans k.box.x2, (World.cell?_of_block (a := ⟨W.heap.size, 3, none⟩) e).trans k.box.x3⟩
theorem zIK : (Tryz.prog.info? 101).map (fun i => (i.zero, i.size, i.bytes)) = some (some (.agg #[.int .i64 0, .slice none 0 0]), 2, 32) := by kernel_rfl
theorem zG1 (n : Nat) (hn : n <= 10000) (w : World) :
  (Instr.makeSlice 119 (.int .i64 (n : Int)) (.int .i64 (n : Int))).run Tryz.prog w = .ok (.slice (some ⟨w.heap.size, 0, none⟩) n n) (w.alloc (.cells (madeCells #[.int .i64 0, .slice none 0 0] (n * 2)) 101)) := by
 obtain ⟨i0, hi, hz0, hz1, hz2⟩ := info_parts zIK
 have hr := run_make (P := Tryz.prog) w 119 101 i0 (.agg #[.int .i64 0, .slice none 0 0]) Tryz.underlying119 hi hz0 .i64 .i64 (n : Int) (n : Int) (by omega) (Int.le_refl _) (by rw [hz2]; omega) (by omega)
 simp only [Int.toNat_natCast, hz1] at hr
 exact hr
theorem zGA (n s : Nat) (h : s < n) (a b : Value) : (madeCells #[a, b] (n * 2))[s * 2]? = some a /\ (madeCells #[a, b] (n * 2))[s * 2 + 1]? = some b := by
 have e1 : s * 2 < n * 2 := by omega
 have e2 : s * 2 + 1 < n * 2 := by omega
 constructor
 ·simp [madeCells, e1]
 ·simp [madeCells, e2, Nat.add_mod]
def zBU (G : Gram) (j : Nat) : Int -> Ans := fun s => if 0 <= s /\ s < (j : Int) then tab0 G s else .is []
theorem zHT (G : Gram) (s : Int) : zBU G 0 s = .is [] := if_neg (by omega)
theorem zC0 (G : Gram) (j : Nat) : setA (zBU G j) (j : Int) (tab0 G (j : Int)) = zBU G (j + 1) := by
 funext s
 by_cases e : s = (j : Int)
 ·subst e
  rw [zBB]
  unfold zBU
  rw [if_pos (by omega)]
 ·rw [zAi _ _ e]
  unfold zBU
  by_cases h : 0 <= s /\ s < (j : Int)
  ·rw [if_pos h, if_pos (by omega)]
  ·rw [if_neg h, if_neg (by omega)]
theorem zHS (G : Gram) {j : Nat} (h : tab0 G (j : Int) = .is []) : zBU G j = zBU G (j + 1) := by
 rw [← zC0, h]
 funext s
 by_cases e : s = (j : Int)
 ·subst e
  rw [zBB]
  unfold zBU
  rw [if_neg (by omega)]
 ·rw [zAi _ _ e]
theorem zJR {G : Gram} {s : Int} (h : zBJ G s = true) : tab0 G s = .is [s] := by
 have := zAN.1 h
 unfold tab0
 rw [if_neg (by omega), if_pos h]
theorem zKu {G : Gram} {s : Int} (h : nonB G s = true) : tab0 G s = .none := by
 have h1 := zAW.1 h
 have h2 : ¬ zBJ G s = true := fun k => by have := zAN.1 k; omega
 unfold tab0
 rw [if_neg (by omega), if_neg h2]
theorem zKx (G : Gram) : TOk (top G + 1) (tab0 G) := by
 refine ⟨fun s hs => ?_, fun s x hx => ?_⟩
 ·have h2 : ¬ zBJ G s = true := fun k => by have := zAN.1 k; unfold top at hs; omega
  unfold tab0
  rw [if_neg (by omega), if_neg h2]
 ·unfold tab0 at hx
  split at hx
  ·injection hx with hx; subst hx; exact Nat.zero_le _
  ·split at hx
   ·injection hx with hx; subst hx; simp
   ·cases hx
theorem LAt.congr {q n : Nat} {T U : Int -> Ans} {w : World} (h : LAt q n T w) (e : ∀ s : Nat, s < n -> T (s : Int) = U (s : Int)) : LAt q n U w :=
 ⟨fun s hs => by rw [← e s hs]; exact h.len s hs, fun s hs => by rw [← e s hs]; exact h.word s hs, h.free, h.lt⟩
theorem zLr (n : Nat) (w : World) (T : Int -> Ans) (hT : ∀ s : Nat, s < n -> T (s : Int) = .is []) : LAt w.heap.size n T (w.alloc (.cells (madeCells #[.int .i64 0, .slice none 0 0] (n * 2)) 101)) := by
 have B := Bk.new w (madeCells #[.int .i64 0, .slice none 0 0] (n * 2)) 101 _ rfl
 refine ⟨fun s hs => ?_, fun s hs => ⟨_, B.cell (zGA n s hs _ _).2, ?_⟩, fun j => B.free j, B.lt⟩
 ·rw [hT s hs]
  exact B.cell (zGA n s hs _ _).1
 ·rw [hT s hs]
  exact zJc _ _
theorem LAt.put_one {q n : Nat} {T : Int -> Ans} {w : World} (h : LAt q n T w) {s : Nat} (hs : s < n) (x : Int) :
  LAt q n (setA T (s : Int) (.is [x])) (((w.setCell ⟨q, s * 2, none⟩ (.int .i64 1)).setCell ⟨q, s * 2 + 1, none⟩ (.slice (some ⟨w.heap.size, 0, none⟩) 1 1)).alloc (.cells #[.int .i64 x] 3)) := by
 have b := boxed w (.cells #[.int .i64 x] 3)
 have B := Bk.new w #[.int .i64 x] 3 _ rfl
 have hv : WAt q [x] (.slice (some ⟨w.heap.size, 0, none⟩) 1 1) (w.alloc (.cells #[.int .i64 x] 3)) := by
  refine ⟨_, 1, rfl, fun i hi => ⟨w.heap.size, 0, rfl, ?_⟩, fun b o e _ => ?_⟩
  ·have : i = 0 := by simp [ivs] at hi; omega
   subst this
   exact B.cell rfl
  ·injection e with e
   injection e with e
   have := h.lt
   omega
 have := (h.went b).set hs (a := .is [x]) hv
 rw [World.setCell_alloc_past _ _ _ _ h.lt, World.setCell_alloc_past _ _ _ _ (by rw [Rw.zCD]; exact h.lt)] at this
 exact this
structure LSt (W : World) (h : Sh) (G : Gram) (q n : Nat) (T : Int -> Ans) (w : World) : Prop where
 x : Bx W h G w
 l : LAt q n T w
 lo : W.heap.size < q
theorem LSt.went {W : World} {h : Sh} {G : Gram} {q n : Nat} {T : Int -> Ans} {w w' : World} (k : LSt W h G q n T w) (hb : Below w.heap.size w w') : LSt W h G q n T w' := ⟨k.x.went hb, k.l.went hb, k.lo⟩
theorem LSt.fr {W : World} {h : Sh} {G : Gram} {q n : Nat} {T U : Int -> Ans} {w w' : World} (k : LSt W h G q n T w) (hF : Sep.Fr (fun i => i = q) w w') (hl : LAt q n U w') : LSt W h G q n U w' :=
 ⟨zHp k.x hF fun i hi => by have := k.lo; omega, hl, k.lo⟩
theorem LSt.one {W : World} {h : Sh} {G : Gram} {q n : Nat} {T : Int -> Ans} {w : World} (k : LSt W h G q n T w) {s : Nat} (hs : s < n) (x : Int) :
  LSt W h G q n (setA T (s : Int) (.is [x])) (((w.setCell ⟨q, s * 2, none⟩ (.int .i64 1)).setCell ⟨q, s * 2 + 1, none⟩ (.slice (some ⟨w.heap.size, 0, none⟩) 1 1)).alloc (.cells #[.int .i64 x] 3)) :=
 k.fr ((((Sep.Fr.refl (fun i => i = q) w).setCell ⟨q, s * 2, none⟩ rfl _).setCell ⟨q, s * 2 + 1, none⟩ rfl _).alloc _) (k.l.put_one hs x)
theorem LSt.gone {W : World} {h : Sh} {G : Gram} {q n : Nat} {T : Int -> Ans} {w : World} (k : LSt W h G q n T w) {s : Nat} (hs : s < n) :
  LSt W h G q n (setA T (s : Int) .none) ((w.setCell ⟨q, s * 2, none⟩ (.int .i64 4098)).setCell ⟨q, s * 2 + 1, none⟩ (.slice none 0 0)) :=
 k.fr (((Sep.Fr.refl (fun i => i = q) w).setCell ⟨q, s * 2, none⟩ rfl _).setCell ⟨q, s * 2 + 1, none⟩ rfl _) (k.l.set hs (a := .none) (zJc _ _))
def zM9 (W : World) (h : Sh) (G : Gram) (q n : Nat) (i : Value) (w : World) : Prop :=
 ∃ j : Nat, j <= n /\ i = .int .i64 j /\ LSt W h G q n (zBU G j) w
def zK7 (n : Nat) (T : Int -> Ans) (w : World) (e : Ending) (w' : World) : Prop :=
 ∃ p q, e = .returned (.pointer (some ⟨p, 0, none⟩)) /\ TAt p q n T w' /\ w.heap.size <= p /\ w.heap.size <= q /\ Below w.heap.size w w'
theorem zGy (h : Sh) (G : Gram) (w : World) (k : GAt h G w) (hs : Sml G) :
  Calls Tryz.prog 42 #[gv h G] w (zK7 (top G + 1) (tab0 G) w) := by
 have X := zNR (Bx.start h G w 25)
 obtain ⟨x0, x1, x2, x3⟩ := X.out.box
 have T1 := zNR (fun w1 (b : Below w.heap.size w w1) => zBS h G w1 (k.went b))
 have TE := zNR (fun s w1 (b : Below w.heap.size w w1) => zGX h G s w1 (k.went b))
 have NO := zNR (fun s w1 (b : Below w.heap.size w w1) => zFT h G s w1 (k.went b))
 have ht := hs.t
 have hn := hs.n
 have htop : top G <= 240 := by unfold top; omega
 have TP := zNR (show top G = G.terms.length + G.nons.length from rfl)
 have hmk := fun w => show (Instr.makeSlice 119 (.int .i64 ((top G : Int) + 1)) (.int .i64 ((top G : Int) + 1))).run Tryz.prog w = _ from zG1 (top G + 1) (by omega) w
 have TK := zNR (zKx G)
 clear k hs
 generalize top G = tp at *
 unfold gv
 go_enter Tryz.func42, Tryz.ntmps42
 go_wp2_with (first
  | (go_at_call 70; refine (T1.out _ X.out.below).mono ?_; rintro e w1 ⟨rfl, hb⟩; have X1 := zNR (X.out.went hb); clear hb))
 have hq1 : w.heap.size < w1.heap.size := X1.out.size
 have L0 := zNR (show LSt w h G w1.heap.size (tp + 1) (zBU G 0) (w1.alloc (.cells (madeCells #[.int .i64 0, .slice none 0 0] ((tp + 1) * 2)) 101)) from
  ⟨X1.out.alloc _, zLr (tp + 1) w1 (zBU G 0) (fun s _ => zHT G _), hq1⟩)
 generalize w1.heap.size = q at *
 clear hmk
 go_loopw [11] (fun i wr => zM9 w h G q (tp + 1) i wr) (fun i _ => tp + 1 - (intOf i).toNat)
 case atStart => exact ⟨0, Nat.zero_le _, rfl, L0.out⟩
 case round =>
  clear L0 X1 X
  obtain ⟨j, hj, rfl, hL⟩ := hrel
  have L := zNR hL
  clear hL
  obtain ⟨x0, x1, x2, x3⟩ := L.out.x.box
  by_cases hlt : j < tp + 1
  ·have TC := zNR (TE.out (j : Int) _ L.out.x.below)
   have hql : q < wr.heap.size := L.out.l.lt
   by_cases htm : zBJ G (j : Int) = true
   ·have S1 := zNR (show setA (zBU G j) (j : Int) (.is [(j : Int)]) = zBU G (j + 1) by rw [← zC0, zJR htm])
    rw [htm] at TC
    clear htm
    go_wp2_with (first
     | (go_at_call 71; refine TC.out.mono ?_; rintro e w2 ⟨rfl, hb⟩; have L2 := zNR (L.out.went hb); clear hb hql; have hql : q < w2.heap.size := L2.out.l.lt; have c0 := L2.out.l.len j hlt; obtain ⟨u, c1, _⟩ := L2.out.l.word j hlt; have cf := L2.out.l.free))
    have L3 := zNR (L2.out.one hlt (j : Int))
    rw [S1.out] at L3
    go_roundw
    case rel => exact ⟨j + 1, by omega, by go_num, L3.out⟩
    case measure => simp [intOf]; omega
   ·have NC := zNR (fun w1 (b : Below wr.heap.size wr w1) => NO.out (j : Int) w1 (Gr.step L.out.x.below b))
    by_cases hnn : nonB G (j : Int) = true
    ·have S1 := zNR (show setA (zBU G j) (j : Int) .none = zBU G (j + 1) by rw [← zC0, zKu hnn])
     rw [Bool.eq_false_iff.2 htm] at TC
     rw [hnn] at NC
     clear htm hnn
     go_wp2_with (first
      | (go_at_call 71; refine TC.out.mono ?_; rintro e w2 ⟨rfl, hb⟩; have L2 := zNR (L.out.went hb); have B2 := zNR hb; clear hb x0 x1 x2 x3; obtain ⟨x0, x1, x2, x3⟩ := L2.out.x.box)
      | (go_at_call 72; refine (NC.out _ B2.out).mono ?_; rintro e w3 ⟨rfl, hb⟩; have L3 := zNR (L2.out.went hb); clear hb hql; have hql : q < w3.heap.size := L3.out.l.lt; have c0 := L3.out.l.len j hlt; obtain ⟨u, c1, _⟩ := L3.out.l.word j hlt; have cf := L3.out.l.free))
     have L4 := zNR (L3.out.gone hlt)
     rw [S1.out] at L4
     go_roundw
     case rel => exact ⟨j + 1, by omega, by go_num, L4.out⟩
     case measure => simp [intOf]; omega
    ·have S1 := zNR (show zBU G j = zBU G (j + 1) from zHS G (by
      have h0 : (j : Int) = 0 := by
       rw [zAN] at htm
       rw [zAW] at hnn
       have := TP.out
       omega
      rw [h0]
      rfl))
     rw [Bool.eq_false_iff.2 htm] at TC
     rw [Bool.eq_false_iff.2 hnn] at NC
     clear htm hnn
     go_wp2_with (first
      | (go_at_call 71; refine TC.out.mono ?_; rintro e w2 ⟨rfl, hb⟩; have L2 := zNR (L.out.went hb); have B2 := zNR hb; clear hb x0 x1 x2 x3; obtain ⟨x0, x1, x2, x3⟩ := L2.out.x.box)
      | (go_at_call 72; refine (NC.out _ B2.out).mono ?_; rintro e w3 ⟨rfl, hb⟩; have L3 := zNR (L2.out.went hb); clear hb))
     rw [S1.out] at L3
     go_roundw
     case rel => exact ⟨j + 1, by omega, by go_num, L3.out⟩
     case measure => simp [intOf]; omega
  ·have hE : j = tp + 1 := by omega
   have bp := boxed wr (.cells #[.slice (some ⟨q, 0, none⟩) (tp + 1) (tp + 1)] 122)
   have E := zNR (show zK7 (tp + 1) (tab0 G) w (.returned (.pointer (some ⟨wr.heap.size, 0, none⟩))) (wr.alloc (.cells #[.slice (some ⟨q, 0, none⟩) (tp + 1) (tp + 1)] 122)) from
    ⟨wr.heap.size, q, rfl, ⟨(Bk.new wr _ _ _ rfl).cell rfl, (L.out.l.congr fun s hs => by rw [hE]; unfold zBU; rw [if_pos (by omega)]).went bp, by have := L.out.l.lt; omega, by omega, TK.out⟩, L.out.x.below.size, by have := L.out.lo; omega, Gr.step L.out.x.below bp⟩)
   clear hE bp
   go_wp2
   go_ret
   exact E.out
