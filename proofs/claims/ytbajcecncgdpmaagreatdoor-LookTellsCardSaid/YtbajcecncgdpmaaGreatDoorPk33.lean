/- A part of the proof. -/
import Derived.Test.YtbajcecncgdpmaaGreatDoorPk32
set_option maxHeartbeats 16000000
set_option maxRecDepth 100000
set_option linter.unusedVariables false
namespace Go.Proofs.YtbajcecncgdpmaaGreatDoor
open Go.RowKit Go.Maps
namespace Fr
open Gr
open Fi
open Bt (Keeps)
open Rw (Bk)
structure RR (l u m n q c : Nat) (ds : Nat -> Nat) (w : World) : Prop where
 rows : Rows l m n ds (.slice (some ⟨q, 0, none⟩) n c) w
 up : ∀ i, i < n -> ds i < u
 ql : l <= q
 qu : q < u
theorem RR.went {l u m n q c : Nat} {ds : Nat -> Nat} {w w' : World} (h : RR l u m n q c ds w) (hb : Below w.heap.size w w') : RR l u m n q c ds w' := ⟨h.rows.went hb, h.up, h.ql, h.qu⟩
theorem zQ6 (n m : Nat) (w : World) (hn : n <= 4000) (h0 : 0 < n) (hm : m <= 4000) :
  Calls Tryz.prog 32 #[.int .i64 (n : Int), .int .i64 (m : Int)] w (fun e w' => ∃ q c ds, e = .returned (.slice (some ⟨q, 0, none⟩) n c) /\ RR w.heap.size w'.heap.size m n q c ds w' /\ Below w.heap.size w w') := by
 refine (zOA n m w hn hm).mono ?_
 rintro e w' ⟨v, ds, rfl, hR, hb⟩
 rcases hR.row.2 with ⟨_, h2⟩ | ⟨g, cap, cur, h1, _⟩
 ·omega
 ·subst h1
  have hlt := hR.row.lt g rfl
  exact ⟨g, cap, ds, rfl, ⟨hR, fun i hi => (hR.each i hi).lt, hlt.1, hlt.2⟩, hb⟩
theorem RR.cell {l u m n q c : Nat} {ds : Nat -> Nat} {w : World} (h : RR l u m n q c ds w) {s : Nat} (hs : s < n) : w.cell? ⟨q, s, none⟩ = some (.slice (some ⟨ds s, 0, none⟩) m m) := by
 have := h.rows.row.cells (g := q) rfl s (rowV m ds s) (by simp [hs])
 rwa [WideShapes.add_plain, Nat.zero_add] at this
structure OSt (W : World) (h : Sh) (G : Gram) (D : Ix -> Nat) (p q1 q2 k1 k2 : Nat) (C : Int -> Bool) (F B : Int -> Int -> Bool) (w : World) : Prop where
 x : Bx W h G w
 s : RAt D p q1 q2 k1 k2 (top G + 1) h G (tv C F B no0) w
 lo : ∀ k, Jn (top G + 1) k -> W.heap.size < D k
theorem OSt.went {W : World} {h : Sh} {G : Gram} {D : Ix -> Nat} {p q1 q2 k1 k2 : Nat} {C : Int -> Bool} {F B : Int -> Int -> Bool} {w w' : World} (o : OSt W h G D p q1 q2 k1 k2 C F B w) (hb : Below w.heap.size w w') : OSt W h G D p q1 q2 k1 k2 C F B w' := ⟨o.x.went hb, o.s.went hb, o.lo⟩
theorem OSt.fr {W : World} {h : Sh} {G : Gram} {D : Ix -> Nat} {p q1 q2 k1 k2 : Nat} {C C' : Int -> Bool} {F B F' B' : Int -> Int -> Bool} {w w' : World} (o : OSt W h G D p q1 q2 k1 k2 C F B w) (hF : Sep.Fr (Ds (Jn (top G + 1)) D) w w') (hs : RAt D p q1 q2 k1 k2 (top G + 1) h G (tv C' F' B' no0) w') : OSt W h G D p q1 q2 k1 k2 C' F' B' w' :=
 ⟨zE0 o.x hF (fun b ⟨k, hk, e⟩ => e ▸ o.lo k hk), hs, o.lo⟩
abbrev nof : Int -> Int -> Bool := fun _ _ => false
def OMid (W : World) (h : Sh) (G : Gram) (s : Value) (w : World) : Prop := ∃ D p q1 q2 k1 k2, s = .pointer (some ⟨p, 0, none⟩) /\ OSt W h G D p q1 q2 k1 k2 zCM nof nof w
theorem zHc {W : World} {h : Sh} {G : Gram} {dc q1 c1 q2 c2 l1 u1 l2 u2 : Nat} {ds1 ds2 : Nat -> Nat} {w : World} (hc : BRow dc (top G + 1) no0 w) (A : RR l1 u1 (G.terms.length + 1) (top G + 1) q1 c1 ds1 w) (B : RR l2 u2 (G.terms.length + 1) (top G + 1) q2 c2 ds2 w) (hX : Bx W h G w)
  (h1 : W.heap.size < l1) (h2 : W.heap.size < l2) (h3 : W.heap.size < dc) (d1 : u1 <= l2 \/ u2 <= l1) (d2 : dc < l1 \/ u1 <= dc) (d3 : dc < l2 \/ u2 <= dc) (hn : top G <= 240) (N : Nat) (hN : N = top G + 1) (q : Nat) (hq : q = w.heap.size) :
  OMid W h G (.pointer (some ⟨q, 0, none⟩)) (w.alloc (.cells #[.slice h.a1 G.terms.length h.c1, .slice h.a2 G.nons.length h.c2, .slice h.a3 G.rules.length h.c3, .int .i64 G.start, .slice (some ⟨dc, 0, none⟩) N N, .slice (some ⟨q1, 0, none⟩) N c1, .slice (some ⟨q2, 0, none⟩) N c2] 84)) := by
 subst hN
 subst hq
 have bx := boxed w (.cells #[.slice h.a1 G.terms.length h.c1, .slice h.a2 G.nons.length h.c2, .slice h.a3 G.rules.length h.c3, .int .i64 G.start, .slice (some ⟨dc, 0, none⟩) (top G + 1) (top G + 1), .slice (some ⟨q1, 0, none⟩) (top G + 1) c1, .slice (some ⟨q2, 0, none⟩) (top G + 1) c2] 84)
 have A' := A.went bx
 have B' := B.went bx
 have hc' := hc.went bx
 have e : top G = G.terms.length + G.nons.length := rfl
 have a1 := A.up
 have a2 := A.rows.lo
 have b1 := B.up
 have b2 := B.rows.lo
 have qa := A.ql
 have qb := A.qu
 have qc := B.ql
 have qd := B.qu
 have cl := hc.lt
 have dl1 : ∀ i, i < top G + 1 -> ds1 i < w.heap.size := fun i hi => (A.rows.each i hi).lt
 have dl2 : ∀ i, i < top G + 1 -> ds2 i < w.heap.size := fun i hi => (B.rows.each i hi).lt
 have ql1 : q1 < w.heap.size := World.block_lt_of_cell? w ⟨q1, 0, none⟩ (A.cell (s := 0) (by omega))
 have ql2 : q2 < w.heap.size := World.block_lt_of_cell? w ⟨q2, 0, none⟩ (B.cell (s := 0) (by omega))
 have o1 : ∀ i, i < top G + 1 -> ds1 i ≠ q1 := fun i hi e2 => A.rows.off i hi (by rw [e2]; rfl)
 have o2 : ∀ i, i < top G + 1 -> ds2 i ≠ q2 := fun i hi e2 => B.rows.off i hi (by rw [e2]; rfl)
 refine ⟨fun k => match k with | .e => dc | .f s => ds1 s | .g s => ds2 s | .o => 0, w.heap.size, q1, q2, c1, c2, rfl, hX.went bx, ⟨Bk.new w _ _ _ rfl, fun s hs => A'.cell hs, fun s hs => B'.cell hs, ⟨?_, ?_⟩, ?_, by omega, by omega⟩, ?_⟩
 ·rintro (_ | s | s | _) hk
  ·exact hc'
  ·exact A'.rows.each s hk
  ·exact B'.rows.each s hk
  ·exact hk.elim
 ·rintro (_ | s | s | _) (_ | s' | s' | _) hj hk he
  ·rfl
  ·have h1 := a1 s' hk
   have h2 := a2 s' hk
   have he : dc = ds1 s' := he
   omega
  ·have h1 := b1 s' hk
   have h2 := b2 s' hk
   have he : dc = ds2 s' := he
   omega
  ·exact hk.elim
  ·have h1 := a1 s hj
   have h2 := a2 s hj
   have he : ds1 s = dc := he
   omega
  ·rw [A.rows.inj s s' hj hk he]
  ·have h1 := a1 s hj
   have h2 := a2 s hj
   have h3 := b1 s' hk
   have h4 := b2 s' hk
   have he : ds1 s = ds2 s' := he
   omega
  ·exact hk.elim
  ·have h1 := b1 s hj
   have h2 := b2 s hj
   have he : ds2 s = dc := he
   omega
  ·have h1 := b1 s hj
   have h2 := b2 s hj
   have h3 := a1 s' hk
   have h4 := a2 s' hk
   have he : ds2 s = ds1 s' := he
   omega
  ·rw [B.rows.inj s s' hj hk he]
  ·exact hk.elim
  ·exact hj.elim
  ·exact hj.elim
  ·exact hj.elim
  ·exact hj.elim
 ·rintro (_ | s | s | _) hk
  ·show dc ≠ w.heap.size /\ dc ≠ q1 /\ dc ≠ q2
   omega
  ·have h1 := a1 s hk
   have h2 := a2 s hk
   have h3 := dl1 s hk
   have h4 := o1 s hk
   show ds1 s ≠ w.heap.size /\ ds1 s ≠ q1 /\ ds1 s ≠ q2
   omega
  ·have h1 := b1 s hk
   have h2 := b2 s hk
   have h3 := dl2 s hk
   have h4 := o2 s hk
   show ds2 s ≠ w.heap.size /\ ds2 s ≠ q1 /\ ds2 s ≠ q2
   omega
  ·exact hk.elim
 ·rintro (_ | s | s | _) hk
  ·exact h3
  ·exact Nat.lt_of_lt_of_le h1 (a2 s hk)
  ·exact Nat.lt_of_lt_of_le h2 (b2 s hk)
  ·exact hk.elim
theorem BRow.setv {d m : Nat} {P : Nat -> Bool} {w : World} (h : BRow d m P w) {s : Nat} (hs : s < m) (v : Bool) : BRow d m (fun t => if t = s then v else P t) (w.setCell ⟨d, s, none⟩ (.bool v)) := by
 refine ⟨fun t ht => ?_, fun j => ?_, by rw [Rw.zBo]; exact h.lt⟩
 ·by_cases e : t = s
  ·subst e
   rw [World.cell?_setCell_same _ _ _ (h.at_ t ht), if_pos rfl]
  ·rw [World.cell?_setCell_other _ _ _ _ (by intro e2; exact e (congrArg Addr.off e2).symm), h.at_ t ht, if_neg e]
 ·rw [World.frozen?_setCell]
  exact h.free j
theorem RAt.setv {D : Ix -> Nat} {p q1 q2 k1 k2 n : Nat} {h : Sh} {G : Gram} {V : Ix -> Nat -> Bool} {w : World} (l : RAt D p q1 q2 k1 k2 n h G V w) {k : Ix} (hk : Jn n k) {s : Nat} (hs : s < rm G.terms.length n k) (v : Bool) :
  RAt D p q1 q2 k1 k2 n h G (upd V k (fun t => if t = s then v else V k t)) (w.setCell ⟨D k, s, none⟩ (.bool v)) /\ Sep.Fr (Ds (Jn n) D) w (w.setCell ⟨D k, s, none⟩ (.bool v)) :=
 ⟨l.wrote hk ((l.fam.at_ k hk).setv hs v) ((Keeps.refl _ _).setCell s (.bool v)), zBp hk ((Keeps.refl _ _).setCell s (.bool v))⟩
def zE2 (k : Nat) : Int -> Int -> Bool := fun x t => decide (x = t /\ 0 <= x /\ x < (k : Int))
theorem zJy : zE2 0 = nof := by
 funext x t
 unfold zE2
 rw [decide_eq_false_iff_not]
 omega
theorem zMS (G : Gram) : zE2 (G.terms.length + 1) = zBO G := by
 funext x t
 unfold zE2 zBO
 rw [decide_eq_decide]
 omega
theorem zJp (k : Nat) (C : Int -> Bool) (B : Int -> Int -> Bool) : upd (tv C (zE2 k) B no0) (.f k) (fun t => if t = k then true else tv C (zE2 k) B no0 (.f k) t) = tv C (zE2 (k + 1)) B no0 := by
 refine tv_f ?_ fun x hx => ?_
 ·funext i
  show (if i = k then true else decide ((k : Int) = (i : Int) /\ 0 <= (k : Int) /\ (k : Int) < (k : Int))) = decide ((k : Int) = (i : Int) /\ 0 <= (k : Int) /\ (k : Int) < ((k + 1 : Nat) : Int))
  by_cases e : i = k
  ·rw [if_pos e]
   symm
   rw [decide_eq_true_iff]
   omega
  ·rw [if_neg e, decide_eq_decide]
   omega
 ·funext t
  unfold zE2
  rw [decide_eq_decide]
  omega
theorem zRJ {C : Int -> Bool} {F B : Int -> Int -> Bool} {s : Nat} {R : List Int} : upd (tv C F B no0) .e (fun t => if t = s then (C (s : Int) || allC C R) else tv C F B no0 .e t) = tv (addC C ((s : Int), R)) F B no0 := by
 refine tv_e ?_
 funext i
 show (if i = s then (C (s : Int) || allC C R) else C (i : Int)) = (C (i : Int) || (decide ((i : Int) = (s : Int)) && allC C R))
 by_cases e : i = s
 ·subst e
  rw [if_pos rfl, decide_eq_true rfl, Bool.true_and]
 ·rw [if_neg e, decide_eq_false (by omega), Bool.false_and, Bool.or_false]
theorem zQc {G : Gram} {C : Int -> Bool} {F : Int -> Int -> Bool} {s : Nat} (h : G.start = (s : Int)) : upd (tv C F nof no0) (.g s) (fun t => if t = 0 then true else tv C F nof no0 (.g s) t) = tv C F (zBl G) no0 := by
 refine tv_g ?_ fun x hx => ?_
 ·funext i
  show (if i = 0 then true else false) = decide ((s : Int) = G.start /\ (i : Int) = 0)
  by_cases e : i = 0
  ·rw [if_pos e]
   symm
   rw [decide_eq_true_iff]
   omega
  ·rw [if_neg e]
   symm
   rw [decide_eq_false_iff_not]
   omega
 ·funext i
  show decide (x = G.start /\ i = 0) = false
  rw [decide_eq_false_iff_not]
  omega
end Fr
namespace Fr
open Gr
open Fi
def WS (nl : Bool) (v : Value) (h : Sh) (G : Gram) (C : Int -> Bool) (F B : Int -> Int -> Bool) (w : World) : Prop :=
 (nl = true /\ v = .pointer none /\ C = (fun _ => false) /\ F = (fun _ _ => false) /\ B = (fun _ _ => false)) \/ (nl = false /\ ∃ D p q1 q2 k1 k2, v = .pointer (some ⟨p, 0, none⟩) /\ RAt D p q1 q2 k1 k2 (top G + 1) h G (tv C F B no0) w)
theorem WS.went {nl : Bool} {v : Value} {h : Sh} {G : Gram} {C : Int -> Bool} {F B : Int -> Int -> Bool} {w w' : World} (k : WS nl v h G C F B w) (hb : Below w.heap.size w w') : WS nl v h G C F B w' := by
 rcases k with k | ⟨h1, D, p, q1, q2, k1, k2, h2, h3⟩
 ·exact .inl k
 ·exact .inr ⟨h1, D, p, q1, q2, k1, k2, h2, h3.went hb⟩
def zTK (h : Sh) (G : Gram) (w : World) (e : Ending) (w' : World) : Prop := ∃ v, e = .returned v /\ WS (nlB G) v h G (ansC G) (ansF G) (ansB G) w' /\ Below w.heap.size w w'
def zTr (W : World) (h : Sh) (G : Gram) (D : Ix -> Nat) (p q1 q2 k1 k2 : Nat) (i : Value) (w : World) : Prop :=
 ∃ k : Nat, k <= G.terms.length + 1 /\ i = .int .i64 k /\ OSt W h G D p q1 q2 k1 k2 zCM (zE2 k) nof w
def zTf (W : World) (h : Sh) (G : Gram) (D : Ix -> Nat) (p q1 q2 k1 k2 : Nat) (g : Nat) (m : Value) (w : World) : Prop :=
 ∃ (C : Int -> Bool) (F : Int -> Int -> Bool) (b : Bool), m = .bool b /\ OSt W h G D p q1 q2 k1 k2 C F nof w /\ TOk G.terms.length (top G + 1) C F nof /\ Snd G C F /\ Leaf G F /\ (b = true -> zCq C F (G.terms.length + 1) (top G + 1) + 1 <= g) /\ (b = false -> Just G C F)
def O2In (W : World) (h : Sh) (G : Gram) (D : Ix -> Nat) (p q1 q2 k1 k2 : Nat) (C0 : Int -> Bool) (F0 : Int -> Int -> Bool) (m i : Value) (w : World) : Prop :=
 ∃ (j : Nat) (C : Int -> Bool) (F : Int -> Int -> Bool) (b : Bool), j <= G.rules.length /\ i = .int .i64 j /\ m = .bool b /\ OSt W h G D p q1 q2 k1 k2 C F nof w /\ TOk G.terms.length (top G + 1) C F nof /\ TriedF G (top G + 1) C0 F0 j C F b
def zTZ (W : World) (h : Sh) (G : Gram) (D : Ix -> Nat) (p q1 q2 k1 k2 : Nat) (g : Nat) (m : Value) (w : World) : Prop :=
 ∃ (B : Int -> Int -> Bool) (b : Bool), m = .bool b /\ OSt W h G D p q1 q2 k1 k2 (canB G) (fstB G) B w /\ TOk G.terms.length (top G + 1) (canB G) (fstB G) B /\ BSnd G B /\ B G.start 0 = true /\ (b = true -> zAr B (G.terms.length + 1) (top G + 1) + 1 <= g) /\ (b = false -> B = folB G)
def O3In (W : World) (h : Sh) (G : Gram) (D : Ix -> Nat) (p q1 q2 k1 k2 : Nat) (B0 : Int -> Int -> Bool) (m i : Value) (w : World) : Prop :=
 ∃ (j : Nat) (B : Int -> Int -> Bool) (b : Bool), j <= G.rules.length /\ i = .int .i64 j /\ m = .bool b /\ OSt W h G D p q1 q2 k1 k2 (canB G) (fstB G) B w /\ TOk G.terms.length (top G + 1) (canB G) (fstB G) B /\ TriedB G (top G + 1) (canB G) (fstB G) B0 j 0 B b
theorem TOk.addCF {t n : Nat} {C : Int -> Bool} {F B : Int -> Int -> Bool} (h : TOk t n C F B) {r : Int × List Int} (h0 : 0 <= r.1) (h1 : r.1 < (n : Int)) : TOk t n (addC C r) (addF C F r) B :=
 ⟨zJC h.c h0 h1, (h.addF h0 h1).f1, (h.addF h0 h1).f2, h.b1, h.b2⟩
theorem zRE {G : Gram} : TOk G.terms.length (top G + 1) zCM (zBO G) nof := by
 have e : top G = G.terms.length + G.nons.length := rfl
 refine ⟨(fun x h => by cases h), fun x i hi => ?_, fun x i hi => ?_, (fun x i h => by cases h), (fun x i h => by cases h)⟩
 ·unfold zBO at hi
  rw [decide_eq_true_iff] at hi
  omega
 ·unfold zBO at hi
  rw [decide_eq_true_iff] at hi
  omega
theorem zDY (h : Sh) (G : Gram) (w : World) (k : GAt h G w) :
  Calls Tryz.prog 11 #[gv h G] w (zTK h G w) := by
 obtain ⟨a1, c1, a2, c2, a3, c3⟩ := h
 have X := zUB (Bx.start ⟨a1, c1, a2, c2, a3, c3⟩ G w 25)
 have C := zUB (fun w1 (b : Below w.heap.size w w1) => zFC ⟨a1, c1, a2, c2, a3, c3⟩ G w1 (k.went b))
 have T1 := zUB (fun w1 (b : Below w.heap.size w w1) => zFz ⟨a1, c1, a2, c2, a3, c3⟩ G w1 (k.went b))
 obtain ⟨x0, x1, x2, x3⟩ := X.out.box
 try dsimp only at x0 x1 x2 x3
 by_cases hc : checkN G = 0
 ·have SM := zUB (zAs hc)
  have KG := zUB k
  have AN := zUB (show nlB G = false /\ ansC G = canB G /\ ansF G = fstB G /\ ansB G = folB G from ⟨by unfold nlB; rw [decide_eq_true hc]; rfl, by unfold ansC; rw [if_pos hc], by unfold ansF; rw [if_pos hc], by unfold ansB; rw [if_pos hc]⟩)
  have ht := SM.out.t
  have hnn := SM.out.n
  have TP := zUB (show top G = G.terms.length + G.nons.length from rfl)
  have htop : top G <= 240 := by have := TP.out; omega
  have RO := zUB (fun w1 => show Calls Tryz.prog 32 #[.int .i64 ((top G : Int) + 1), .int .i64 ((G.terms.length : Int) + 1)] w1 _ from zQ6 (top G + 1) (G.terms.length + 1) w1 (by omega) (by omega) (by omega))
  have hm1 := fun w => show (Instr.makeSlice 65 (.int .i64 ((top G : Int) + 1)) (.int .i64 ((top G : Int) + 1))).run Tryz.prog w = _ from zCc (top G + 1) (by omega) w
  rw [hc] at C
  clear k hc
  unfold gv
  dsimp only
  go_enter Tryz.func11, Tryz.ntmps11
  go_upto_region 4 with (first
   | (go_at_call 30; refine (C.out _ X.out.below).mono ?_; rintro e w1 ⟨rfl, hb⟩; have X1 := zUB (X.out.went hb); clear hb x0 x1 x2 x3; obtain ⟨x0, x1, x2, x3⟩ := X1.out.box; try dsimp only at x0 x1 x2 x3)
   | (go_at_call 31; refine (T1.out _ X1.out.below).mono ?_; rintro e w2 ⟨rfl, hb⟩; have X2 := zUB (X1.out.went hb); clear hb x0 x1 x2 x3; obtain ⟨x0, x1, x2, x3⟩ := X2.out.box; try dsimp only at x0 x1 x2 x3))
  go_cut [4] (fun s wx => OMid w ⟨a1, c1, a2, c2, a3, c3⟩ G s wx)
  case first =>
   have hq2 : w.heap.size < w2.heap.size := X2.out.size
   have hbd := drawn w2
   have hwr : IntKind.i64.wrap ((G.terms.length : Int) + 1) = (G.terms.length : Int) + 1 := IntWalk.i64_in _ (by omega)
   have HQ := zUB (show ∀ w', Below w2.heap.size w2 w' -> w'.cell? ⟨w.heap.size, 0, none⟩ = some (.slice a1 G.terms.length c1) /\ w'.cell? ⟨w.heap.size, 1, none⟩ = some (.slice a2 G.nons.length c2) /\ w'.cell? ⟨w.heap.size, 2, none⟩ = some (.slice a3 G.rules.length c3) /\ w'.cell? ⟨w.heap.size, 3, none⟩ = some (.int .i64 G.start) /\ Below w2.heap.size w2 w' from
    fun w' hb => ⟨cell_later hb x0, cell_later hb x1, cell_later hb x2, cell_later hb x3, hb⟩)
   go_region_held3 (fun w' => w'.cell? ⟨w.heap.size, 0, none⟩ = some (.slice a1 G.terms.length c1) /\ w'.cell? ⟨w.heap.size, 1, none⟩ = some (.slice a2 G.nons.length c2) /\ w'.cell? ⟨w.heap.size, 2, none⟩ = some (.slice a3 G.rules.length c3) /\ w'.cell? ⟨w.heap.size, 3, none⟩ = some (.int .i64 G.start) /\ Below w2.heap.size w2 w')
    (exact HQ.out _ (by repeat (first | assumption | (with_reducible exact Below.refl _ _) | (with_reducible refine Below.drew ?_) | (with_reducible refine Gr.step ?_ (Gr.boxed _ _)))))
    (first
     | (go_at_call 32; have kk := kB; (with_reducible refine (RO.out _).mono ?_); rintro e w4 ⟨q4, c4, ds4, rfl, hR4, hb4⟩; have kC : Below w2.heap.size w2 w4 := Gr.step (by repeat (first | assumption | (with_reducible exact Below.refl _ _) | (with_reducible refine Below.drew ?_) | (with_reducible refine Gr.step ?_ (Gr.boxed _ _)))) hb4)
     | (go_at_call 32; (with_reducible refine (RO.out _).mono ?_); rintro e w3 ⟨q3, c3', ds3, rfl, hR3, hb3⟩; have kB : Below w2.heap.size w2 w3 := Gr.step (by repeat (first | assumption | (with_reducible exact Below.refl _ _) | (with_reducible refine Below.drew ?_) | (with_reducible refine Gr.step ?_ (Gr.boxed _ _)))) hb3)
     | fail)
   all_goals
    go_wp2_with fail
    go_meet
    case rel =>
     have htp := TP.out
     have hdr : ∀ u : World, u.drew.heap.size = u.heap.size := fun _ => rfl
     have hs3 := hb3.size
     have hs4 := hb4.size
     have hs5 := kB.size
     first
      | refine zHc (h := ⟨a1, c1, a2, c2, a3, c3⟩) (?_) (hR3.went hb4) hR4 (?_) (?_) (?_) (?_) (?_) (?_) (?_) htop _ rfl _ (?_)
      | refine zHc (h := ⟨a1, c1, a2, c2, a3, c3⟩) (?_) ((hR3.went (boxed _ _)).went hb4) hR4 (?_) (?_) (?_) (?_) (?_) (?_) (?_) htop _ rfl _ (?_)
      | refine zHc (h := ⟨a1, c1, a2, c2, a3, c3⟩) (?_) ((hR3.went hb4).went (boxed _ _)) (hR4.went (boxed _ _)) (?_) (?_) (?_) (?_) (?_) (?_) (?_) htop _ rfl _ (?_)
     ·repeat (first | exact zGT _ _ | refine BRow.went ?_ (boxed _ _) | refine BRow.went ?_ hb4 | refine BRow.went ?_ hb3 | refine BRow.went ?_ (drawn _))
     ·repeat (first | exact X2.out.went kC | refine Bx.went ?_ (boxed _ _))
     all_goals try rw [hdr] at hs3
     all_goals try rw [hdr] at hs4
     all_goals try rw [hdr]
     all_goals try rw [hdr]
     all_goals first | omega | (simp at hs3 hs4 ⊢ <;> omega) | (simp at hs3 ⊢ <;> omega) | (simp at hs4 ⊢ <;> omega) | (simp <;> omega)
  case rest =>
   obtain ⟨D, p, q1, q2, k1, k2, rfl, hO⟩ := hcut
   have S0 := zUB (show OSt w ⟨a1, c1, a2, c2, a3, c3⟩ G D p q1 q2 k1 k2 zCM (zE2 0) nof wc by rw [zJy]; exact hO)
   clear hO hm1 RO C T1 X X1 X2 x0 x1 x2 x3
   go_wp2
   go_loopw [5] (fun i wr => zTr w ⟨a1, c1, a2, c2, a3, c3⟩ G D p q1 q2 k1 k2 i wr) (fun i _ => G.terms.length + 1 - (intOf i).toNat)
   case atStart => exact ⟨0, by omega, rfl, S0.out⟩
   case round =>
    clear S0
    obtain ⟨k, hk, rfl, hS⟩ := hrel
    have S := zUB hS
    clear hS
    obtain ⟨x0, x1, x2, x3⟩ := S.out.x.box
    try dsimp only at x0 x1 x2 x3
    by_cases hlt : k < G.terms.length + 1
    ·have hkn : k < top G + 1 := by have := TP.out; omega
     have hjf : Jn (top G + 1) (.f k) := hkn
     obtain ⟨y0, y1, y2, y3, y4, y5, y6⟩ := seven S.out.s.box
     have z1 := S.out.s.begins k hkn
     have z2 := (S.out.s.fam.at_ _ hjf).at_ k hlt
     have zf := (S.out.s.fam.at_ _ hjf).free k
     obtain ⟨r1, r2⟩ := S.out.s.setv hjf (s := k) hlt true
     have S1 := zUB (S.out.fr r2 (r1.eq (zJp k zCM nof)))
     have hd : decide ((k : Int) <= (G.terms.length : Int)) = true := decide_eq_true (by omega)
     clear r1 r2
     go_wp2
     go_roundw
     case rel => exact ⟨k + 1, by omega, by go_num, S1.out⟩
     case measure => simp [intOf]; omega
    ·have hE : k = G.terms.length + 1 := by omega
     have S1 := zUB (show OSt w ⟨a1, c1, a2, c2, a3, c3⟩ G D p q1 q2 k1 k2 zCM (zBO G) nof wr by
      have := S.out
      rwa [hE, zMS] at this)
     have hd : decide ((k : Int) <= (G.terms.length : Int)) = false := decide_eq_false (by omega)
     clear S hE
     go_wp2
     have hz : decide (k <= G.terms.length) = false := decide_eq_false (by omega)
     try rw [hz]
     clear x0 x1 x2 x3 hd hlt hk hz
     have TK0 := zUB (zRE (G := G))
     go_loopg [6] (zCq zCM (zBO G) (G.terms.length + 1) (top G + 1) + 2) (fun g m wr => zTf w ⟨a1, c1, a2, c2, a3, c3⟩ G D p q1 q2 k1 k2 g m wr)
     case atStart => exact ⟨zCM, zBO G, true, rfl, S1.out, TK0.out, snd0 G, zSu G, (fun _ => by omega), fun h => by cases h⟩
     case round =>
      clear S1
      obtain ⟨C0, F0, b, rfl, hS, hok, hsn, hlf, hg, hju⟩ := hrel
      have S := zUB hS
      have OK := zUB hok
      cases b with
      | false =>
       have hJ := hju rfl
       obtain ⟨rfl, rfl⟩ := hJ.eq
       clear hsn hlf hg hju hJ hS hok
       obtain ⟨s, hs1, hs2, hs3⟩ : ∃ s : Nat, G.start = (s : Int) /\ G.terms.length < s /\ s < top G + 1 := ⟨G.start.toNat, by have := zAM.1 (zDF SM.out.known); omega, by have := zAM.1 (zDF SM.out.known); omega, by have := zAM.1 (zDF SM.out.known); have := TP.out; omega⟩
       have hjg : Jn (top G + 1) (.g s) := hs3
       obtain ⟨x0, x1, x2, x3⟩ := S.out.x.box
       try dsimp only at x0 x1 x2 x3
       obtain ⟨y0, y1, y2, y3, y4, y5, y6⟩ := seven S.out.s.box
       have z6 := S.out.s.behind s hs3
       have ze : wr.cell? ⟨D (.g s), 0, none⟩ = some (.bool false) := (S.out.s.fam.at_ _ hjg).at_ 0 (by show 0 < G.terms.length + 1; omega)
       have zf := (S.out.s.fam.at_ _ hjg).free 0
       have SD := zUB (S.out.went (drawn wr))
       obtain ⟨st1, st2⟩ := SD.out.s.setv hjg (s := 0) (by show 0 < G.terms.length + 1; omega) true
       have S7 := zUB (SD.out.fr st2 (st1.eq (zQc hs1)))
       have OK7 := zUB (tok0 SM.out.known (C := canB G) (zLp SM.out.known))
       have OK8 := zUB (show TOk G.terms.length (top G + 1) (canB G) (fstB G) (zBl G) from ⟨OK.out.c, OK.out.f1, OK.out.f2, OK7.out.b1, OK7.out.b2⟩)
       rw [hs1] at x3
       have hs0 : (0 : Int) <= (s : Int) := by omega
       have hsn : (s : Int) < (top G : Int) + 1 := by omega
       clear SD st1 st2 OK7 S
       go_wp2_with fail
       go_still_tail 9, (by kernel_rfl)
       repeat still_step
       try refine wpStill_nil ?_
       try change wpList _ _ _ _ _ wr.drew
       go_wp2
       clear x0 x1 x2 x3 y0 y1 y2 y3 y4 y5 y6 z6 ze zf hs1 hs0 hsn hs2 hs3 hjg
       go_loopg [11] (zAr (zBl G) (G.terms.length + 1) (top G + 1) + 2) (fun g m wr => zTZ w ⟨a1, c1, a2, c2, a3, c3⟩ G D p q1 q2 k1 k2 g m wr)
       case atStart => exact ⟨zBl G, true, rfl, S7.out, OK8.out, (zRN G).1, (zRN G).2, (fun _ => by omega), fun h => by cases h⟩
       case round =>
        clear S7 OK8 OK
        obtain ⟨B0, b, rfl, hS, hok, hbs, hb0, hg, hfo⟩ := hrel
        have S := zUB hS
        have OK := zUB hok
        cases b with
        | false =>
         have e := hfo rfl
         subst e
         clear hbs hb0 hg hfo hS hok
         go_wp2
         go_ret
         refine ⟨_, rfl, .inr ⟨AN.out.1, D, p, q1, q2, k1, k2, rfl, ?_⟩, S.out.x.below⟩
         rw [AN.out.2.1, AN.out.2.2.1, AN.out.2.2.2]
         exact S.out.s
        | true =>
         have GG := zUB (hg rfl)
         have V0 := zUB (zEZ (n := top G + 1) (C := canB G) (F := fstB G) hbs hb0)
         clear hbs hb0 hg hfo hS hok
         go_wp2
         go_loopw [11, 12] (fun m i wr => O3In w ⟨a1, c1, a2, c2, a3, c3⟩ G D p q1 q2 k1 k2 B0 m i wr) (fun _ i _ => G.rules.length - (intOf i).toNat)
         case atStart => exact ⟨0, B0, false, Nat.zero_le _, rfl, rfl, S.out, OK.out, V0.out⟩
         case round =>
          clear S OK V0
          obtain ⟨j, B, b, hj, rfl, rfl, hS, hok, hV⟩ := hrel
          have S := zUB hS
          have OK := zUB hok
          have V := zUB hV
          clear hS hok hV
          obtain ⟨x0, x1, x2, x3⟩ := S.out.x.box
          try dsimp only at x0 x1 x2 x3
          by_cases hlr : j < G.rules.length
          ·have hm := List.getElem_mem hlr
           have hl := zAM.1 (zDz SM.out.known hm)
           obtain ⟨b2, o2, ra, rc, e3, h1, h2, h3, h4, h5⟩ := KG.out.rules j hlr
           try dsimp only at e3
           subst e3
           have LOK := zUB (zC4 SM.out hlr h4)
           have g1 := cell_later S.out.x.below h1
           have g2 := cell_later S.out.x.below h2
           have hrl := SM.out.r
           have hr1 := KG.out.r1
           try dsimp only at hr1
           have BC := zUB (fun (s : Nat) (R : List Int) (hr : G.rules[j] = ((s : Int), R)) (hs : s < top G + 1) hR hL => zLE w wr KG.out S.out.s OK.out S.out.x.below (fun k hk => Nat.le_of_lt (S.out.lo k hk)) rfl j hlr b V.out s R hr hs ra rc hR hL)
           clear h1 h2 h4 h5 hm
           generalize G.rules[j] = r at *
           obtain ⟨left, R⟩ := r
           dsimp only at g1 g2 hl LOK h3
           obtain ⟨s, rfl⟩ : ∃ s : Nat, left = (s : Int) := ⟨left.toNat, by omega⟩
           have hsn : s < top G + 1 := by have := TP.out; omega
           have BC2 := zUB (BC.out s R rfl hsn h3 LOK.out)
           clear BC h3 hl
           go_wp2_with fail
           refine BC2.out.mono ?_
           rintro e w5 ⟨b1, B', rfl, ht5, hok5, hs5, hf5⟩
           have S5 := zUB (S.out.fr hf5 hs5)
           have OK5 := zUB hok5
           have T5 := zUB ht5
           clear ht5 hok5 hs5 hf5 x0 x1 x2 x3 g1 g2 BC2 S OK V
           cases b1 with
           | false =>
            have R5 := zUB (show TriedB G (top G + 1) (canB G) (fstB G) B0 (j + 1) 0 B' b by have := T5.out; rwa [Bool.or_false] at this)
            clear T5
            go_wp2
            go_roundw
            case rel => exact ⟨j + 1, B', b, by omega, by go_num, rfl, S5.out, OK5.out, R5.out⟩
            case measure => simp [intOf]; omega
           | true =>
            have R5 := zUB (show TriedB G (top G + 1) (canB G) (fstB G) B0 (j + 1) 0 B' true by have := T5.out; rwa [Bool.or_true] at this)
            clear T5
            go_wp2
            go_roundw
            case rel => exact ⟨j + 1, B', true, by omega, by go_num, rfl, S5.out, OK5.out, R5.out⟩
            case measure => simp [intOf]; omega
          ·have E := zUB (show b = false -> B = folB G from fun e => by have := V.out; subst e; exact zP7 (this.all (zLw G) hlr))
           have SN := zUB V.out.snd
           have S0' := zUB V.out.start
           have YS := zUB (show b = true -> zAr B (G.terms.length + 1) (top G + 1) < zAr B0 (G.terms.length + 1) (top G + 1) from fun e => V.out.yes e)
           have hgg := GG.out
           go_wp2
           go_roundg (zAr B0 (G.terms.length + 1) (top G + 1))
           case measure => omega
           case rel => exact ⟨B, b, rfl, S.out, OK.out, SN.out, S0'.out, (fun e => by have := YS.out e; omega), E.out⟩
      | true =>
       have GG := zUB (hg rfl)
       have V0 := zUB (show TriedF G (top G + 1) C0 F0 0 C0 F0 false from ⟨hsn, hlf, fun _ => ⟨⟨rfl, rfl⟩, fun i _ hi => absurd hi (by omega)⟩, fun h => by cases h⟩)
       clear hsn hlf hg hju hS hok
       go_wp2
       go_loopw [6, 7] (fun m i wr => O2In w ⟨a1, c1, a2, c2, a3, c3⟩ G D p q1 q2 k1 k2 C0 F0 m i wr) (fun _ i _ => G.rules.length - (intOf i).toNat)
       case atStart => exact ⟨0, C0, F0, false, Nat.zero_le _, rfl, rfl, S.out, OK.out, V0.out⟩
       case round =>
        clear S OK V0
        obtain ⟨j, C, F, b, hj, rfl, rfl, hS, hok, hV⟩ := hrel
        have S := zUB hS
        have OK := zUB hok
        have V := zUB hV
        clear hS hok hV
        obtain ⟨x0, x1, x2, x3⟩ := S.out.x.box
        try dsimp only at x0 x1 x2 x3
        by_cases hlr : j < G.rules.length
        ·have hm := List.getElem_mem hlr
         have hl := zAM.1 (zDz SM.out.known hm)
         have LF := zB4 SM.out.known
         obtain ⟨b2, o2, ra, rc, e3, h1, h2, h3, h4, h5⟩ := KG.out.rules j hlr
         try dsimp only at e3
         subst e3
         have LOK := zUB (zC4 SM.out hlr h4)
         have g1 := cell_later S.out.x.below h1
         have g2 := cell_later S.out.x.below h2
         have RD := zUB (fun w4 (b : Below w.heap.size w w4) => Sep.Reads.below h3 b (Nat.le_refl _))
         have G1 := zUB (fun w4 (b : Below w.heap.size w w4) => cell_later b h1)
         have ST := zUB (fun c hc => V.out.step LF hlr (c := c) hc)
         have hrl := SM.out.r
         have hr1 := KG.out.r1
         try dsimp only at hr1
         clear h1 h2 h3 h4 h5 hm LF
         generalize G.rules[j] = r at *
         obtain ⟨left, R⟩ := r
         dsimp only at g1 g2 hl LOK RD G1 ST
         obtain ⟨s, rfl⟩ : ∃ s : Nat, left = (s : Int) := ⟨left.toNat, by omega⟩
         have hsn : s < top G + 1 := by have := TP.out; omega
         have hjf : Jn (top G + 1) (.f s) := hsn
         have hje : Jn (top G + 1) .e := trivial
         have BC := zUB (zEj wr S.out.s OK.out R ra rc (RD.out _ S.out.x.below) LOK.out)
         have LR := zUB (zBh (C := C) OK.out.f1 R)
         have OK2 := zUB (TOk.addCF OK.out (r := ((s : Int), R)) (by show (0 : Int) <= (s : Int); omega) (by show (s : Int) < ((top G + 1 : Nat) : Int); omega))
         have ST2 := zUB (show ∀ b1 m : Bool, (b1 = true ↔ ∃ i : Nat, rw' (zAO C F R) i = true /\ rw' (F (s : Int)) i = false) -> m = (b || (b1 || (allC C R && !C (s : Int)))) -> TriedF G (top G + 1) C0 F0 (j + 1) (addC C ((s : Int), R)) (addF C F ((s : Int), R)) m from fun b1 m hb hm => by
          rw [hm]
          refine ST.out _ ?_
          unfold grows
          dsimp only
          rw [Bool.or_eq_true, Bool.and_eq_true, hb, zQD (m := 0) (fun t ht => (LR.out t ht.1).1)]
          simp [rw'])
         have hi0 : (0 : Int) <= (j : Int) := by omega
         have hi1 : (j : Int) < (G.rules.length : Int) := by omega
         have hs0 : (0 : Int) <= (s : Int) := by omega
         have hs1 : (s : Int) < (top G : Int) + 1 := by omega
         have hdl : D (.f s) < wr.heap.size := (S.out.s.fam.at_ _ hjf).lt
         unfold zIq at BC
         clear ST V hl
         go_wp2_with fail
         refine BC.out.mono ?_
         rintro e w5 ⟨dN, rfl, hr5, hd5, hb⟩
         have S5 := zUB (S.out.went hb)
         have PC := zUB (zAt (D (.f s)) dN (G.terms.length + 1) (G.terms.length + 1) (G.terms.length + 1) (rw' (F (s : Int))) (rw' (zAO C F R)) w5 (S5.out.s.fam.at_ _ hjf) hr5 (by omega) (fun i hi => by have := (LR.out _ hi).2; omega) (by omega))
         have g5 := G1.out _ S5.out.x.below
         clear BC S hr5 hd5 hb x0 x1 x2 x3 g1 g2
         obtain ⟨x0, x1, x2, x3⟩ := S5.out.x.box
         try dsimp only at x0 x1 x2 x3
         obtain ⟨y0, y1, y2, y3, y4, y5, y6⟩ := seven S5.out.s.box
         have z5 := S5.out.s.begins s hsn
         have CS := zUB (fun w6 (k : RAt D p q1 q2 k1 k2 (top G + 1) ⟨a1, c1, a2, c2, some ⟨b2, o2, none⟩, c3⟩ G (tv C (addF C F ((s : Int), R)) nof no0) w6) => k.setv hje (s := s) hsn (C (s : Int) || allC C R))
         have CE := zUB (zRJ (C := C) (F := addF C F ((s : Int), R)) (B := nof) (s := s) (R := R))
         have ZE := zUB (fun w6 (k : RAt D p q1 q2 k1 k2 (top G + 1) ⟨a1, c1, a2, c2, some ⟨b2, o2, none⟩, c3⟩ G (tv C (addF C F ((s : Int), R)) nof no0) w6) => show w6.cell? ⟨D .e, s, none⟩ = some (.bool (C (s : Int))) from (k.fam.at_ _ hje).at_ s hsn)
         have FE := zUB (show upd (tv C F nof no0) (.f s) (fun i => rw' (F (s : Int)) i || rw' (zAO C F R) i) = tv C (addF C F ((s : Int), R)) nof no0 from tv_f (by funext i; unfold rw' addF; dsimp only; rw [decide_eq_true rfl, Bool.true_and]) (fun x hx => by funext t; unfold addF; dsimp only; rw [decide_eq_false hx]; simp))
         generalize allC C R = al at *
         generalize C (s : Int) = cs at *
         cases al <;> cases cs
         all_goals
          go_wp2_with fail
          refine PC.out.mono ?_
          rintro e w6 ⟨b1, rfl, hg1, hr6, hk6⟩
          have R6 := (S5.out.s.wrote hjf hr6 hk6).eq FE.out
          have S6 := zUB (S5.out.fr (zBp hjf hk6) R6)
          have G6 := zUB hg1
          have SD := zUB (S6.out.went (drawn w6))
          obtain ⟨st1, st2⟩ := CS.out _ SD.out.s
          have S7 := zUB (SD.out.fr st2 (st1.eq CE.out))
          have ze := ZE.out _ S6.out.s
          have zf := (S6.out.s.fam.at_ _ hje).free s
          clear R6 hr6 hk6 hg1 y0 y1 y2 y3 y4 y5 y6 z5 x0 x1 x2 x3 PC SD st1 st2 g5
          obtain ⟨y0, y1, y2, y3, y4, y5, y6⟩ := seven S6.out.s.box
          cases b1
          all_goals
           have ST3 := zUB (fun m hm => ST2.out _ m G6.out hm)
           clear G6 ST2
           go_wp2_with fail
           go_still_tail 16, (by kernel_rfl)
           repeat still_step
           try refine wpStill_nil ?_
           try change wpList _ _ _ _ _ w6.drew
           go_wp2
           go_roundw
           case rel => exact ⟨j + 1, _, _, _, by omega, by go_num, rfl, S7.out, OK2.out, ST3.out _ (by cases b <;> rfl)⟩
           case measure => simp [intOf]; omega
        ·have E := zUB (show b = false -> Just G C F from fun e => by have := V.out; subst e; exact this.all hlr)
         have SN := zUB V.out.snd
         have LF := zUB V.out.leaf
         have YS := zUB (show b = true -> zCq C F (G.terms.length + 1) (top G + 1) < zCq C0 F0 (G.terms.length + 1) (top G + 1) from fun e => V.out.yes e)
         have hgg := GG.out
         go_wp2
         go_roundg (zCq C0 F0 (G.terms.length + 1) (top G + 1))
         case measure => omega
         case rel => exact ⟨C, F, b, rfl, S.out, OK.out, SN.out, LF.out, (fun e => by have := YS.out e; omega), E.out⟩
 ·have AN := zUB (show nlB G = true /\ ansC G = (fun _ => false) /\ ansF G = (fun _ _ => false) /\ ansB G = (fun _ _ => false) from ⟨by unfold nlB; rw [decide_eq_false hc]; rfl, by unfold ansC; rw [if_neg hc], by unfold ansF; rw [if_neg hc], by unfold ansB; rw [if_neg hc]⟩)
  have hb : (checkN G != 0) = true := by simpa using hc
  clear k hc
  generalize checkN G = ck at *
  unfold gv
  dsimp only
  go_enter Tryz.func11, Tryz.ntmps11
  go_wp2_with (go_at_call 30; refine (C.out _ X.out.below).mono ?_; rintro e w1 ⟨rfl, hb⟩; have X1 := zUB (X.out.went hb); clear hb)
  go_ret
  exact ⟨_, rfl, .inl ⟨AN.out.1, rfl, AN.out.2⟩, X1.out.below⟩
