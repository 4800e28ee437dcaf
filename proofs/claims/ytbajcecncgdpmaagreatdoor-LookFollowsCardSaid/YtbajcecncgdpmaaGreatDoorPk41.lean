/- A part of the proof. -/
import Derived.Test.YtbajcecncgdpmaaGreatDoorPk31
import Derived.Test.YtbajcecncgdpmaaGreatDoorPk40
import Derived.Test.YtbajcecncgdpmaaGreatDoorPk34
set_option maxHeartbeats 16000000
set_option maxRecDepth 100000
set_option linter.unusedVariables false
namespace Go.Proofs.YtbajcecncgdpmaaGreatDoor
open Go.RowKit Go.Maps
namespace Fr
open Gr
open Fi
open Bt (Keeps)
open Rw (Bk)
structure RR (l u m n q c : Nat) (ds : Nat -> Nat) (w : World) : Prop where
 rows : Rows l m n ds (.slice (some ⟨q, 0, none⟩) n c) w
 up : ∀ i, i < n -> ds i < u
 ql : l <= q
 qu : q < u
theorem RR.went {l u m n q c : Nat} {ds : Nat -> Nat} {w w' : World} (h : RR l u m n q c ds w) (hb : Below w.heap.size w w') : RR l u m n q c ds w' := ⟨h.rows.went hb, h.up, h.ql, h.qu⟩
theorem zQd (n m : Nat) (w : World) (hn : n <= 4000) (h0 : 0 < n) (hm : m <= 4000) :
  Calls Tryz.prog 32 #[.int .i64 (n : Int), .int .i64 (m : Int)] w (fun e w' => ∃ q c ds, e = .returned (.slice (some ⟨q, 0, none⟩) n c) /\ RR w.heap.size w'.heap.size m n q c ds w' /\ Below w.heap.size w w') := by
 refine (zOV n m w hn hm).mono ?_
 rintro e w' ⟨v, ds, rfl, hR, hb⟩
 rcases hR.row.2 with ⟨_, h2⟩ | ⟨g, cap, cur, h1, _⟩
 ·omega
 ·subst h1
  have hlt := hR.row.lt g rfl
  exact ⟨g, cap, ds, rfl, ⟨hR, fun i hi => (hR.each i hi).lt, hlt.1, hlt.2⟩, hb⟩
theorem RR.cell {l u m n q c : Nat} {ds : Nat -> Nat} {w : World} (h : RR l u m n q c ds w) {s : Nat} (hs : s < n) : w.cell? ⟨q, s, none⟩ = some (.slice (some ⟨ds s, 0, none⟩) m m) := by
 have := h.rows.row.cells (g := q) rfl s (rowV m ds s) (by simp [hs])
 rwa [WideShapes.add_plain, Nat.zero_add] at this
structure OSt (W : World) (h : Sh) (G : Gram) (D : Ix -> Nat) (p q1 q2 k1 k2 : Nat) (C : Int -> Bool) (F B : Int -> Int -> Bool) (w : World) : Prop where
 x : Bx W h G w
 s : RAt D p q1 q2 k1 k2 (top G + 1) h G (tv C F B no0) w
 lo : ∀ k, Jn (top G + 1) k -> W.heap.size < D k
theorem OSt.went {W : World} {h : Sh} {G : Gram} {D : Ix -> Nat} {p q1 q2 k1 k2 : Nat} {C : Int -> Bool} {F B : Int -> Int -> Bool} {w w' : World} (o : OSt W h G D p q1 q2 k1 k2 C F B w) (hb : Below w.heap.size w w') : OSt W h G D p q1 q2 k1 k2 C F B w' := ⟨o.x.went hb, o.s.went hb, o.lo⟩
theorem OSt.fr {W : World} {h : Sh} {G : Gram} {D : Ix -> Nat} {p q1 q2 k1 k2 : Nat} {C C' : Int -> Bool} {F B F' B' : Int -> Int -> Bool} {w w' : World} (o : OSt W h G D p q1 q2 k1 k2 C F B w) (hF : Sep.Fr (Ds (Jn (top G + 1)) D) w w') (hs : RAt D p q1 q2 k1 k2 (top G + 1) h G (tv C' F' B' no0) w') : OSt W h G D p q1 q2 k1 k2 C' F' B' w' :=
 ⟨zEW o.x hF (fun b ⟨k, hk, e⟩ => e ▸ o.lo k hk), hs, o.lo⟩
abbrev nof : Int -> Int -> Bool := fun _ _ => false
def OMid (W : World) (h : Sh) (G : Gram) (s : Value) (w : World) : Prop := ∃ D p q1 q2 k1 k2, s = .pointer (some ⟨p, 0, none⟩) /\ OSt W h G D p q1 q2 k1 k2 zCJ nof nof w
theorem zHY {W : World} {h : Sh} {G : Gram} {dc q1 c1 q2 c2 l1 u1 l2 u2 : Nat} {ds1 ds2 : Nat -> Nat} {w : World} (hc : BRow dc (top G + 1) no0 w) (A : RR l1 u1 (G.terms.length + 1) (top G + 1) q1 c1 ds1 w) (B : RR l2 u2 (G.terms.length + 1) (top G + 1) q2 c2 ds2 w) (hX : Bx W h G w)
  (h1 : W.heap.size < l1) (h2 : W.heap.size < l2) (h3 : W.heap.size < dc) (d1 : u1 <= l2 \/ u2 <= l1) (d2 : dc < l1 \/ u1 <= dc) (d3 : dc < l2 \/ u2 <= dc) (hn : top G <= 240) (N : Nat) (hN : N = top G + 1) (q : Nat) (hq : q = w.heap.size) :
  OMid W h G (.pointer (some ⟨q, 0, none⟩)) (w.alloc (.cells #[.slice h.a1 G.terms.length h.c1, .slice h.a2 G.nons.length h.c2, .slice h.a3 G.rules.length h.c3, .int .i64 G.start, .slice (some ⟨dc, 0, none⟩) N N, .slice (some ⟨q1, 0, none⟩) N c1, .slice (some ⟨q2, 0, none⟩) N c2] 84)) := by
 subst hN
 subst hq
 have bx := boxed w (.cells #[.slice h.a1 G.terms.length h.c1, .slice h.a2 G.nons.length h.c2, .slice h.a3 G.rules.length h.c3, .int .i64 G.start, .slice (some ⟨dc, 0, none⟩) (top G + 1) (top G + 1), .slice (some ⟨q1, 0, none⟩) (top G + 1) c1, .slice (some ⟨q2, 0, none⟩) (top G + 1) c2] 84)
 have A' := A.went bx
 have B' := B.went bx
 have hc' := hc.went bx
 have e : top G = G.terms.length + G.nons.length := rfl
 have a1 := A.up
 have a2 := A.rows.lo
 have b1 := B.up
 have b2 := B.rows.lo
 have qa := A.ql
 have qb := A.qu
 have qc := B.ql
 have qd := B.qu
 have cl := hc.lt
 have dl1 : ∀ i, i < top G + 1 -> ds1 i < w.heap.size := fun i hi => (A.rows.each i hi).lt
 have dl2 : ∀ i, i < top G + 1 -> ds2 i < w.heap.size := fun i hi => (B.rows.each i hi).lt
 have ql1 : q1 < w.heap.size := World.block_lt_of_cell? w ⟨q1, 0, none⟩ (A.cell (s := 0) (by omega))
 have ql2 : q2 < w.heap.size := World.block_lt_of_cell? w ⟨q2, 0, none⟩ (B.cell (s := 0) (by omega))
 have o1 : ∀ i, i < top G + 1 -> ds1 i ≠ q1 := fun i hi e2 => A.rows.off i hi (by rw [e2]; rfl)
 have o2 : ∀ i, i < top G + 1 -> ds2 i ≠ q2 := fun i hi e2 => B.rows.off i hi (by rw [e2]; rfl)
 refine ⟨fun k => match k with | .e => dc | .f s => ds1 s | .g s => ds2 s | .o => 0, w.heap.size, q1, q2, c1, c2, rfl, hX.went bx, ⟨Bk.new w _ _ _ rfl, fun s hs => A'.cell hs, fun s hs => B'.cell hs, ⟨?_, ?_⟩, ?_, by omega, by omega⟩, ?_⟩
 ·rintro (_ | s | s | _) hk
  ·exact hc'
  ·exact A'.rows.each s hk
  ·exact B'.rows.each s hk
  ·exact hk.elim
 ·rintro (_ | s | s | _) (_ | s' | s' | _) hj hk he
  ·rfl
  ·have h1 := a1 s' hk
   have h2 := a2 s' hk
   have he : dc = ds1 s' := he
   omega
  ·have h1 := b1 s' hk
   have h2 := b2 s' hk
   have he : dc = ds2 s' := he
   omega
  ·exact hk.elim
  ·have h1 := a1 s hj
   have h2 := a2 s hj
   have he : ds1 s = dc := he
   omega
  ·rw [A.rows.inj s s' hj hk he]
  ·have h1 := a1 s hj
   have h2 := a2 s hj
   have h3 := b1 s' hk
   have h4 := b2 s' hk
   have he : ds1 s = ds2 s' := he
   omega
  ·exact hk.elim
  ·have h1 := b1 s hj
   have h2 := b2 s hj
   have he : ds2 s = dc := he
   omega
  ·have h1 := b1 s hj
   have h2 := b2 s hj
   have h3 := a1 s' hk
   have h4 := a2 s' hk
   have he : ds2 s = ds1 s' := he
   omega
  ·rw [B.rows.inj s s' hj hk he]
  ·exact hk.elim
  ·exact hj.elim
  ·exact hj.elim
  ·exact hj.elim
  ·exact hj.elim
 ·rintro (_ | s | s | _) hk
  ·show dc ≠ w.heap.size /\ dc ≠ q1 /\ dc ≠ q2
   omega
  ·have h1 := a1 s hk
   have h2 := a2 s hk
   have h3 := dl1 s hk
   have h4 := o1 s hk
   show ds1 s ≠ w.heap.size /\ ds1 s ≠ q1 /\ ds1 s ≠ q2
   omega
  ·have h1 := b1 s hk
   have h2 := b2 s hk
   have h3 := dl2 s hk
   have h4 := o2 s hk
   show ds2 s ≠ w.heap.size /\ ds2 s ≠ q1 /\ ds2 s ≠ q2
   omega
  ·exact hk.elim
 ·rintro (_ | s | s | _) hk
  ·exact h3
  ·exact Nat.lt_of_lt_of_le h1 (a2 s hk)
  ·exact Nat.lt_of_lt_of_le h2 (b2 s hk)
  ·exact hk.elim
theorem BRow.setv {d m : Nat} {P : Nat -> Bool} {w : World} (h : BRow d m P w) {s : Nat} (hs : s < m) (v : Bool) : BRow d m (fun t => if t = s then v else P t) (w.setCell ⟨d, s, none⟩ (.bool v)) := by
 refine ⟨fun t ht => ?_, fun j => ?_, by rw [Rw.zBz]; exact h.lt⟩
 ·by_cases e : t = s
  ·subst e
   rw [World.cell?_setCell_same _ _ _ (h.at_ t ht), if_pos rfl]
  ·rw [World.cell?_setCell_other _ _ _ _ (by intro e2; exact e (congrArg Addr.off e2).symm), h.at_ t ht, if_neg e]
 ·rw [World.frozen?_setCell]
  exact h.free j
theorem RAt.setv {D : Ix -> Nat} {p q1 q2 k1 k2 n : Nat} {h : Sh} {G : Gram} {V : Ix -> Nat -> Bool} {w : World} (l : RAt D p q1 q2 k1 k2 n h G V w) {k : Ix} (hk : Jn n k) {s : Nat} (hs : s < rm G.terms.length n k) (v : Bool) :
  RAt D p q1 q2 k1 k2 n h G (upd V k (fun t => if t = s then v else V k t)) (w.setCell ⟨D k, s, none⟩ (.bool v)) /\ Sep.Fr (Ds (Jn n) D) w (w.setCell ⟨D k, s, none⟩ (.bool v)) :=
 ⟨l.wrote hk ((l.fam.at_ k hk).setv hs v) ((Keeps.refl _ _).setCell s (.bool v)), zBZ hk ((Keeps.refl _ _).setCell s (.bool v))⟩
def zEg (k : Nat) : Int -> Int -> Bool := fun x t => decide (x = t /\ 0 <= x /\ x < (k : Int))
theorem zJn : zEg 0 = nof := by
 funext x t
 unfold zEg
 rw [decide_eq_false_iff_not]
 omega
theorem zMT (G : Gram) : zEg (G.terms.length + 1) = zBC G := by
 funext x t
 unfold zEg zBC
 rw [decide_eq_decide]
 omega
theorem zJm (k : Nat) (C : Int -> Bool) (B : Int -> Int -> Bool) : upd (tv C (zEg k) B no0) (.f k) (fun t => if t = k then true else tv C (zEg k) B no0 (.f k) t) = tv C (zEg (k + 1)) B no0 := by
 refine tv_f ?_ fun x hx => ?_
 ·funext i
  show (if i = k then true else decide ((k : Int) = (i : Int) /\ 0 <= (k : Int) /\ (k : Int) < (k : Int))) = decide ((k : Int) = (i : Int) /\ 0 <= (k : Int) /\ (k : Int) < ((k + 1 : Nat) : Int))
  by_cases e : i = k
  ·rw [if_pos e]
   symm
   rw [decide_eq_true_iff]
   omega
  ·rw [if_neg e, decide_eq_decide]
   omega
 ·funext t
  unfold zEg
  rw [decide_eq_decide]
  omega
theorem zPX {C : Int -> Bool} {F B : Int -> Int -> Bool} {s : Nat} {R : List Int} : upd (tv C F B no0) .e (fun t => if t = s then (C (s : Int) || allC C R) else tv C F B no0 .e t) = tv (addC C ((s : Int), R)) F B no0 := by
 refine tv_e ?_
 funext i
 show (if i = s then (C (s : Int) || allC C R) else C (i : Int)) = (C (i : Int) || (decide ((i : Int) = (s : Int)) && allC C R))
 by_cases e : i = s
 ·subst e
  rw [if_pos rfl, decide_eq_true rfl, Bool.true_and]
 ·rw [if_neg e, decide_eq_false (by omega), Bool.false_and, Bool.or_false]
theorem zPm {G : Gram} {C : Int -> Bool} {F : Int -> Int -> Bool} {s : Nat} (h : G.start = (s : Int)) : upd (tv C F nof no0) (.g s) (fun t => if t = 0 then true else tv C F nof no0 (.g s) t) = tv C F (zBW G) no0 := by
 refine tv_g ?_ fun x hx => ?_
 ·funext i
  show (if i = 0 then true else false) = decide ((s : Int) = G.start /\ (i : Int) = 0)
  by_cases e : i = 0
  ·rw [if_pos e]
   symm
   rw [decide_eq_true_iff]
   omega
  ·rw [if_neg e]
   symm
   rw [decide_eq_false_iff_not]
   omega
 ·funext i
  show decide (x = G.start /\ i = 0) = false
  rw [decide_eq_false_iff_not]
  omega
end Fr
namespace Fr
open Gr
open Fi
def WS (nl : Bool) (v : Value) (h : Sh) (G : Gram) (C : Int -> Bool) (F B : Int -> Int -> Bool) (w : World) : Prop :=
 (nl = true /\ v = .pointer none /\ C = (fun _ => false) /\ F = (fun _ _ => false) /\ B = (fun _ _ => false)) \/ (nl = false /\ ∃ D p q1 q2 k1 k2, v = .pointer (some ⟨p, 0, none⟩) /\ RAt D p q1 q2 k1 k2 (top G + 1) h G (tv C F B no0) w)
theorem WS.went {nl : Bool} {v : Value} {h : Sh} {G : Gram} {C : Int -> Bool} {F B : Int -> Int -> Bool} {w w' : World} (k : WS nl v h G C F B w) (hb : Below w.heap.size w w') : WS nl v h G C F B w' := by
 rcases k with k | ⟨h1, D, p, q1, q2, k1, k2, h2, h3⟩
 ·exact .inl k
 ·exact .inr ⟨h1, D, p, q1, q2, k1, k2, h2, h3.went hb⟩
def zQ6 (h : Sh) (G : Gram) (w : World) (e : Ending) (w' : World) : Prop := ∃ v, e = .returned v /\ WS (nlB G) v h G (ansC G) (ansF G) (ansB G) w' /\ Below w.heap.size w w'
def zSH (W : World) (h : Sh) (G : Gram) (D : Ix -> Nat) (p q1 q2 k1 k2 : Nat) (i : Value) (w : World) : Prop :=
 ∃ k : Nat, k <= G.terms.length + 1 /\ i = .int .i64 k /\ OSt W h G D p q1 q2 k1 k2 zCJ (zEg k) nof w
def zSI (W : World) (h : Sh) (G : Gram) (D : Ix -> Nat) (p q1 q2 k1 k2 : Nat) (g : Nat) (m : Value) (w : World) : Prop :=
 ∃ (C : Int -> Bool) (F : Int -> Int -> Bool) (b : Bool), m = .bool b /\ OSt W h G D p q1 q2 k1 k2 C F nof w /\ TOk G.terms.length (top G + 1) C F nof /\ Snd G C F /\ Leaf G F /\ (b = true -> zCX C F (G.terms.length + 1) (top G + 1) + 1 <= g) /\ (b = false -> Just G C F)
def O2In (W : World) (h : Sh) (G : Gram) (D : Ix -> Nat) (p q1 q2 k1 k2 : Nat) (C0 : Int -> Bool) (F0 : Int -> Int -> Bool) (m i : Value) (w : World) : Prop :=
 ∃ (j : Nat) (C : Int -> Bool) (F : Int -> Int -> Bool) (b : Bool), j <= G.rules.length /\ i = .int .i64 j /\ m = .bool b /\ OSt W h G D p q1 q2 k1 k2 C F nof w /\ TOk G.terms.length (top G + 1) C F nof /\ TriedF G (top G + 1) C0 F0 j C F b
def zSJ (W : World) (h : Sh) (G : Gram) (D : Ix -> Nat) (p q1 q2 k1 k2 : Nat) (g : Nat) (m : Value) (w : World) : Prop :=
 ∃ (B : Int -> Int -> Bool) (b : Bool), m = .bool b /\ OSt W h G D p q1 q2 k1 k2 (canB G) (fstB G) B w /\ TOk G.terms.length (top G + 1) (canB G) (fstB G) B /\ BSnd G B /\ B G.start 0 = true /\ (b = true -> zBc B (G.terms.length + 1) (top G + 1) + 1 <= g) /\ (b = false -> B = folB G)
def O3In (W : World) (h : Sh) (G : Gram) (D : Ix -> Nat) (p q1 q2 k1 k2 : Nat) (B0 : Int -> Int -> Bool) (m i : Value) (w : World) : Prop :=
 ∃ (j : Nat) (B : Int -> Int -> Bool) (b : Bool), j <= G.rules.length /\ i = .int .i64 j /\ m = .bool b /\ OSt W h G D p q1 q2 k1 k2 (canB G) (fstB G) B w /\ TOk G.terms.length (top G + 1) (canB G) (fstB G) B /\ TriedB G (top G + 1) (canB G) (fstB G) B0 j 0 B b
theorem TOk.addCF {t n : Nat} {C : Int -> Bool} {F B : Int -> Int -> Bool} (h : TOk t n C F B) {r : Int × List Int} (h0 : 0 <= r.1) (h1 : r.1 < (n : Int)) : TOk t n (addC C r) (addF C F r) B :=
 ⟨zIa h.c h0 h1, (h.addF h0 h1).f1, (h.addF h0 h1).f2, h.b1, h.b2⟩
theorem zQp {G : Gram} : TOk G.terms.length (top G + 1) zCJ (zBC G) nof := by
 have e : top G = G.terms.length + G.nons.length := rfl
 refine ⟨(fun x h => by cases h), fun x i hi => ?_, fun x i hi => ?_, (fun x i h => by cases h), (fun x i h => by cases h)⟩
 ·unfold zBC at hi
  rw [decide_eq_true_iff] at hi
  omega
 ·unfold zBC at hi
  rw [decide_eq_true_iff] at hi
  omega
theorem zEF (h : Sh) (G : Gram) (w : World) (k : GAt h G w) :
  Calls Tryz.prog 11 #[gv h G] w (zQ6 h G w) := by
 obtain ⟨a1, c1, a2, c2, a3, c3⟩ := h
 have X := zSt (Bx.start ⟨a1, c1, a2, c2, a3, c3⟩ G w 25)
 have C := zSt (fun w1 (b : Below w.heap.size w w1) => zJT ⟨a1, c1, a2, c2, a3, c3⟩ G w1 (k.went b))
 have T1 := zSt (fun w1 (b : Below w.heap.size w w1) => zId ⟨a1, c1, a2, c2, a3, c3⟩ G w1 (k.went b))
 obtain ⟨x0, x1, x2, x3⟩ := X.out.box
 try dsimp only at x0 x1 x2 x3
 by_cases hc : checkN G = 0
 ·have SM := zSt (zBm hc)
  have KG := zSt k
  have AN := zSt (show nlB G = false /\ ansC G = canB G /\ ansF G = fstB G /\ ansB G = folB G from ⟨by unfold nlB; rw [decide_eq_true hc]; rfl, by unfold ansC; rw [if_pos hc], by unfold ansF; rw [if_pos hc], by unfold ansB; rw [if_pos hc]⟩)
  have ht := SM.out.t
  have hnn := SM.out.n
  have TP := zSt (show top G = G.terms.length + G.nons.length from rfl)
  have htop : top G <= 240 := by have := TP.out; omega
  have RO := zSt (fun w1 => show Calls Tryz.prog 32 #[.int .i64 ((top G : Int) + 1), .int .i64 ((G.terms.length : Int) + 1)] w1 _ from zQd (top G + 1) (G.terms.length + 1) w1 (by omega) (by omega) (by omega))
  have hm1 := fun w => show (Instr.makeSlice 65 (.int .i64 ((top G : Int) + 1)) (.int .i64 ((top G : Int) + 1))).run Tryz.prog w = _ from zDI (top G + 1) (by omega) w
  rw [hc] at C
  clear k hc
  unfold gv
  dsimp only
  go_enter Tryz.func11, Tryz.ntmps11
  go_upto_region 4 with (first
   | (go_at_call 30; refine (C.out _ X.out.below).mono ?_; rintro e w1 ⟨rfl, hb⟩; have X1 := zSt (X.out.went hb); clear hb x0 x1 x2 x3; obtain ⟨x0, x1, x2, x3⟩ := X1.out.box; try dsimp only at x0 x1 x2 x3)
   | (go_at_call 31; refine (T1.out _ X1.out.below).mono ?_; rintro e w2 ⟨rfl, hb⟩; have X2 := zSt (X1.out.went hb); clear hb x0 x1 x2 x3; obtain ⟨x0, x1, x2, x3⟩ := X2.out.box; try dsimp only at x0 x1 x2 x3))
  go_cut [4] (fun s wx => OMid w ⟨a1, c1, a2, c2, a3, c3⟩ G s wx)
  case first =>
   have hq2 : w.heap.size < w2.heap.size := X2.out.size
   have hbd := drawn w2
   have hwr : IntKind.i64.wrap ((G.terms.length : Int) + 1) = (G.terms.length : Int) + 1 := IntWalk.i64_in _ (by omega)
   have HQ := zSt (show ∀ w', Below w2.heap.size w2 w' -> w'.cell? ⟨w.heap.size, 0, none⟩ = some (.slice a1 G.terms.length c1) /\ w'.cell? ⟨w.heap.size, 1, none⟩ = some (.slice a2 G.nons.length c2) /\ w'.cell? ⟨w.heap.size, 2, none⟩ = some (.slice a3 G.rules.length c3) /\ w'.cell? ⟨w.heap.size, 3, none⟩ = some (.int .i64 G.start) /\ Below w2.heap.size w2 w' from
    fun w' hb => ⟨cell_later hb x0, cell_later hb x1, cell_later hb x2, cell_later hb x3, hb⟩)
   go_region_held3 (fun w' => w'.cell? ⟨w.heap.size, 0, none⟩ = some (.slice a1 G.terms.length c1) /\ w'.cell? ⟨w.heap.size, 1, none⟩ = some (.slice a2 G.nons.length c2) /\ w'.cell? ⟨w.heap.size, 2, none⟩ = some (.slice a3 G.rules.length c3) /\ w'.cell? ⟨w.heap.size, 3, none⟩ = some (.int .i64 G.start) /\ Below w2.heap.size w2 w')
    (exact HQ.out _ (by repeat (first | assumption | (with_reducible exact Below.refl _ _) | (with_reducible refine Below.drew ?_) | (with_reducible refine Gr.step ?_ (Gr.boxed _ _)))))
    (first
     | (go_at_call 32; have kk := kB; (with_reducible refine (RO.out _).mono ?_); rintro e w4 ⟨q4, c4, ds4, rfl, hR4, hb4⟩; have kC : Below w2.heap.size w2 w4 := Gr.step (by repeat (first | assumption | (with_reducible exact Below.refl _ _) | (with_reducible refine Below.drew ?_) | (with_reducible refine Gr.step ?_ (Gr.boxed _ _)))) hb4)
     | (go_at_call 32; (with_reducible refine (RO.out _).mono ?_); rintro e w3 ⟨q3, c3', ds3, rfl, hR3, hb3⟩; have kB : Below w2.heap.size w2 w3 := Gr.step (by repeat (first | assumption | (with_reducible exact Below.refl _ _) | (with_reducible refine Below.drew ?_) | (with_reducible refine Gr.step ?_ (Gr.boxed _ _)))) hb3)
     | fail)
   all_goals
    go_wp2_with fail
    go_meet
    case rel =>
     have htp := TP.out
     have hdr : ∀ u : World, u.drew.heap.size = u.heap.size := fun _ => rfl
     have hs3 := hb3.size
     have hs4 := hb4.size
     have hs5 := kB.size
     first
      | refine zHY (h := ⟨a1, c1, a2, c2, a3, c3⟩) (?_) (hR3.went hb4) hR4 (?_) (?_) (?_) (?_) (?_) (?_) (?_) htop _ rfl _ (?_)
      | refine zHY (h := ⟨a1, c1, a2, c2, a3, c3⟩) (?_) ((hR3.went (boxed _ _)).went hb4) hR4 (?_) (?_) (?_) (?_) (?_) (?_) (?_) htop _ rfl _ (?_)
      | refine zHY (h := ⟨a1, c1, a2, c2, a3, c3⟩) (?_) ((hR3.went hb4).went (boxed _ _)) (hR4.went (boxed _ _)) (?_) (?_) (?_) (?_) (?_) (?_) (?_) htop _ rfl _ (?_)
     ·repeat (first | exact zFK _ _ | refine BRow.went ?_ (boxed _ _) | refine BRow.went ?_ hb4 | refine BRow.went ?_ hb3 | refine BRow.went ?_ (drawn _))
     ·repeat (first | exact X2.out.went kC | refine Bx.went ?_ (boxed _ _))
     all_goals try rw [hdr] at hs3
     all_goals try rw [hdr] at hs4
     all_goals try rw [hdr]
     all_goals try rw [hdr]
     all_goals first | omega | (simp at hs3 hs4 ⊢ <;> omega) | (simp at hs3 ⊢ <;> omega) | (simp at hs4 ⊢ <;> omega) | (simp <;> omega)
  case rest =>
   obtain ⟨D, p, q1, q2, k1, k2, rfl, hO⟩ := hcut
   have S0 := zSt (show OSt w ⟨a1, c1, a2, c2, a3, c3⟩ G D p q1 q2 k1 k2 zCJ (zEg 0) nof wc by rw [zJn]; exact hO)
   clear hO hm1 RO C T1 X X1 X2 x0 x1 x2 x3
   go_wp2
   go_loopw [5] (fun i wr => zSH w ⟨a1, c1, a2, c2, a3, c3⟩ G D p q1 q2 k1 k2 i wr) (fun i _ => G.terms.length + 1 - (intOf i).toNat)
   case atStart => exact ⟨0, by omega, rfl, S0.out⟩
   case round =>
    clear S0
    obtain ⟨k, hk, rfl, hS⟩ := hrel
    have S := zSt hS
    clear hS
    obtain ⟨x0, x1, x2, x3⟩ := S.out.x.box
    try dsimp only at x0 x1 x2 x3
    by_cases hlt : k < G.terms.length + 1
    ·have hkn : k < top G + 1 := by have := TP.out; omega
     have hjf : Jn (top G + 1) (.f k) := hkn
     obtain ⟨y0, y1, y2, y3, y4, y5, y6⟩ := seven S.out.s.box
     have z1 := S.out.s.begins k hkn
     have z2 := (S.out.s.fam.at_ _ hjf).at_ k hlt
     have zf := (S.out.s.fam.at_ _ hjf).free k
     obtain ⟨r1, r2⟩ := S.out.s.setv hjf (s := k) hlt true
     have S1 := zSt (S.out.fr r2 (r1.eq (zJm k zCJ nof)))
     have hd : decide ((k : Int) <= (G.terms.length : Int)) = true := decide_eq_true (by omega)
     clear r1 r2
     go_wp2
     go_roundw
     case rel => exact ⟨k + 1, by omega, by go_num, S1.out⟩
     case measure => simp [intOf]; omega
    ·have hE : k = G.terms.length + 1 := by omega
     have S1 := zSt (show OSt w ⟨a1, c1, a2, c2, a3, c3⟩ G D p q1 q2 k1 k2 zCJ (zBC G) nof wr by
      have := S.out
      rwa [hE, zMT] at this)
     have hd : decide ((k : Int) <= (G.terms.length : Int)) = false := decide_eq_false (by omega)
     clear S hE
     go_wp2
     have hz : decide (k <= G.terms.length) = false := decide_eq_false (by omega)
     try rw [hz]
     clear x0 x1 x2 x3 hd hlt hk hz
     have TK0 := zSt (zQp (G := G))
     go_loopg [6] (zCX zCJ (zBC G) (G.terms.length + 1) (top G + 1) + 2) (fun g m wr => zSI w ⟨a1, c1, a2, c2, a3, c3⟩ G D p q1 q2 k1 k2 g m wr)
     case atStart => exact ⟨zCJ, zBC G, true, rfl, S1.out, TK0.out, snd0 G, zRd G, (fun _ => by omega), fun h => by cases h⟩
     case round =>
      clear S1
      obtain ⟨C0, F0, b, rfl, hS, hok, hsn, hlf, hg, hju⟩ := hrel
      have S := zSt hS
      have OK := zSt hok
      cases b with
      | false =>
       have hJ := hju rfl
       obtain ⟨rfl, rfl⟩ := hJ.eq
       clear hsn hlf hg hju hJ hS hok
       obtain ⟨s, hs1, hs2, hs3⟩ : ∃ s : Nat, G.start = (s : Int) /\ G.terms.length < s /\ s < top G + 1 := ⟨G.start.toNat, by have := zAM.1 (zC7 SM.out.known); omega, by have := zAM.1 (zC7 SM.out.known); omega, by have := zAM.1 (zC7 SM.out.known); have := TP.out; omega⟩
       have hjg : Jn (top G + 1) (.g s) := hs3
       obtain ⟨x0, x1, x2, x3⟩ := S.out.x.box
       try dsimp only at x0 x1 x2 x3
       obtain ⟨y0, y1, y2, y3, y4, y5, y6⟩ := seven S.out.s.box
       have z6 := S.out.s.behind s hs3
       have ze : wr.cell? ⟨D (.g s), 0, none⟩ = some (.bool false) := (S.out.s.fam.at_ _ hjg).at_ 0 (by show 0 < G.terms.length + 1; omega)
       have zf := (S.out.s.fam.at_ _ hjg).free 0
       have SD := zSt (S.out.went (drawn wr))
       obtain ⟨st1, st2⟩ := SD.out.s.setv hjg (s := 0) (by show 0 < G.terms.length + 1; omega) true
       have S7 := zSt (SD.out.fr st2 (st1.eq (zPm hs1)))
       have OK7 := zSt (tok0 SM.out.known (C := canB G) (zMB SM.out.known))
       have OK8 := zSt (show TOk G.terms.length (top G + 1) (canB G) (fstB G) (zBW G) from ⟨OK.out.c, OK.out.f1, OK.out.f2, OK7.out.b1, OK7.out.b2⟩)
       rw [hs1] at x3
       have hs0 : (0 : Int) <= (s : Int) := by omega
       have hsn : (s : Int) < (top G : Int) + 1 := by omega
       clear SD st1 st2 OK7 S
       go_wp2_with fail
       go_still_tail 9, (by kernel_rfl)
       repeat still_step
       try refine wpStill_nil ?_
       try change wpList _ _ _ _ _ wr.drew
       go_wp2
       clear x0 x1 x2 x3 y0 y1 y2 y3 y4 y5 y6 z6 ze zf hs1 hs0 hsn hs2 hs3 hjg
       go_loopg [11] (zBc (zBW G) (G.terms.length + 1) (top G + 1) + 2) (fun g m wr => zSJ w ⟨a1, c1, a2, c2, a3, c3⟩ G D p q1 q2 k1 k2 g m wr)
       case atStart => exact ⟨zBW G, true, rfl, S7.out, OK8.out, (zPW G).1, (zPW G).2, (fun _ => by omega), fun h => by cases h⟩
       case round =>
        clear S7 OK8 OK
        obtain ⟨B0, b, rfl, hS, hok, hbs, hb0, hg, hfo⟩ := hrel
        have S := zSt hS
        have OK := zSt hok
        cases b with
        | false =>
         have e := hfo rfl
         subst e
         clear hbs hb0 hg hfo hS hok
         go_wp2
         go_ret
         refine ⟨_, rfl, .inr ⟨AN.out.1, D, p, q1, q2, k1, k2, rfl, ?_⟩, S.out.x.below⟩
         rw [AN.out.2.1, AN.out.2.2.1, AN.out.2.2.2]
         exact S.out.s
        | true =>
         have GG := zSt (hg rfl)
         have V0 := zSt (zEN (n := top G + 1) (C := canB G) (F := fstB G) hbs hb0)
         clear hbs hb0 hg hfo hS hok
         go_wp2
         go_loopw [11, 12] (fun m i wr => O3In w ⟨a1, c1, a2, c2, a3, c3⟩ G D p q1 q2 k1 k2 B0 m i wr) (fun _ i _ => G.rules.length - (intOf i).toNat)
         case atStart => exact ⟨0, B0, false, Nat.zero_le _, rfl, rfl, S.out, OK.out, V0.out⟩
         case round =>
          clear S OK V0
          obtain ⟨j, B, b, hj, rfl, rfl, hS, hok, hV⟩ := hrel
          have S := zSt hS
          have OK := zSt hok
          have V := zSt hV
          clear hS hok hV
          obtain ⟨x0, x1, x2, x3⟩ := S.out.x.box
          try dsimp only at x0 x1 x2 x3
          by_cases hlr : j < G.rules.length
          ·have hm := List.getElem_mem hlr
           have hl := zAM.1 (zDc SM.out.known hm)
           obtain ⟨b2, o2, ra, rc, e3, h1, h2, h3, h4, h5⟩ := KG.out.rules j hlr
           try dsimp only at e3
           subst e3
           have LOK := zSt (zCw SM.out hlr h4)
           have g1 := cell_later S.out.x.below h1
           have g2 := cell_later S.out.x.below h2
           have hrl := SM.out.r
           have hr1 := KG.out.r1
           try dsimp only at hr1
           have BC := zSt (fun (s : Nat) (R : List Int) (hr : G.rules[j] = ((s : Int), R)) (hs : s < top G + 1) hR hL => zKF w wr KG.out S.out.s OK.out S.out.x.below (fun k hk => Nat.le_of_lt (S.out.lo k hk)) rfl j hlr b V.out s R hr hs ra rc hR hL)
           clear h1 h2 h4 h5 hm
           generalize G.rules[j] = r at *
           obtain ⟨left, R⟩ := r
           dsimp only at g1 g2 hl LOK h3
           obtain ⟨s, rfl⟩ : ∃ s : Nat, left = (s : Int) := ⟨left.toNat, by omega⟩
           have hsn : s < top G + 1 := by have := TP.out; omega
           have BC2 := zSt (BC.out s R rfl hsn h3 LOK.out)
           clear BC h3 hl
           go_wp2_with fail
           refine BC2.out.mono ?_
           rintro e w5 ⟨b1, B', rfl, ht5, hok5, hs5, hf5⟩
           have S5 := zSt (S.out.fr hf5 hs5)
           have OK5 := zSt hok5
           have T5 := zSt ht5
           clear ht5 hok5 hs5 hf5 x0 x1 x2 x3 g1 g2 BC2 S OK V
           cases b1 with
           | false =>
            have R5 := zSt (show TriedB G (top G + 1) (canB G) (fstB G) B0 (j + 1) 0 B' b by have := T5.out; rwa [Bool.or_false] at this)
            clear T5
            go_wp2
            go_roundw
            case rel => exact ⟨j + 1, B', b, by omega, by go_num, rfl, S5.out, OK5.out, R5.out⟩
            case measure => simp [intOf]; omega
           | true =>
            have R5 := zSt (show TriedB G (top G + 1) (canB G) (fstB G) B0 (j + 1) 0 B' true by have := T5.out; rwa [Bool.or_true] at this)
            clear T5
            go_wp2
            go_roundw
            case rel => exact ⟨j + 1, B', true, by omega, by go_num, rfl, S5.out, OK5.out, R5.out⟩
            case measure => simp [intOf]; omega
          ·have E := zSt (show b = false -> B = folB G from fun e => by have := V.out; subst e; exact zO4 (this.all (zLA G) hlr))
           have SN := zSt V.out.snd
           have S0' := zSt V.out.start
           have YS := zSt (show b = true -> zBc B (G.terms.length + 1) (top G + 1) < zBc B0 (G.terms.length + 1) (top G + 1) from fun e => V.out.yes e)
           have hgg := GG.out
           go_wp2
           go_roundg (zBc B0 (G.terms.length + 1) (top G + 1))
           case measure => omega
           case rel => exact ⟨B, b, rfl, S.out, OK.out, SN.out, S0'.out, (fun e => by have := YS.out e; omega), E.out⟩
      | true =>
       have GG := zSt (hg rfl)
       have V0 := zSt (show TriedF G (top G + 1) C0 F0 0 C0 F0 false from ⟨hsn, hlf, fun _ => ⟨⟨rfl, rfl⟩, fun i _ hi => absurd hi (by omega)⟩, fun h => by cases h⟩)
       clear hsn hlf hg hju hS hok
       go_wp2
       go_loopw [6, 7] (fun m i wr => O2In w ⟨a1, c1, a2, c2, a3, c3⟩ G D p q1 q2 k1 k2 C0 F0 m i wr) (fun _ i _ => G.rules.length - (intOf i).toNat)
       case atStart => exact ⟨0, C0, F0, false, Nat.zero_le _, rfl, rfl, S.out, OK.out, V0.out⟩
       case round =>
        clear S OK V0
        obtain ⟨j, C, F, b, hj, rfl, rfl, hS, hok, hV⟩ := hrel
        have S := zSt hS
        have OK := zSt hok
        have V := zSt hV
        clear hS hok hV
        obtain ⟨x0, x1, x2, x3⟩ := S.out.x.box
        try dsimp only at x0 x1 x2 x3
        by_cases hlr : j < G.rules.length
        ·have hm := List.getElem_mem hlr
         have hl := zAM.1 (zDc SM.out.known hm)
         have LF := zBs SM.out.known
         obtain ⟨b2, o2, ra, rc, e3, h1, h2, h3, h4, h5⟩ := KG.out.rules j hlr
         try dsimp only at e3
         subst e3
         have LOK := zSt (zCw SM.out hlr h4)
         have g1 := cell_later S.out.x.below h1
         have g2 := cell_later S.out.x.below h2
         have RD := zSt (fun w4 (b : Below w.heap.size w w4) => Sep.Reads.below h3 b (Nat.le_refl _))
         have G1 := zSt (fun w4 (b : Below w.heap.size w w4) => cell_later b h1)
         have ST := zSt (fun c hc => V.out.step LF hlr (c := c) hc)
         have hrl := SM.out.r
         have hr1 := KG.out.r1
         try dsimp only at hr1
         clear h1 h2 h3 h4 h5 hm LF
         generalize G.rules[j] = r at *
         obtain ⟨left, R⟩ := r
         dsimp only at g1 g2 hl LOK RD G1 ST
         obtain ⟨s, rfl⟩ : ∃ s : Nat, left = (s : Int) := ⟨left.toNat, by omega⟩
         have hsn : s < top G + 1 := by have := TP.out; omega
         have hjf : Jn (top G + 1) (.f s) := hsn
         have hje : Jn (top G + 1) .e := trivial
         have BC := zSt (zF7 wr S.out.s OK.out R ra rc (RD.out _ S.out.x.below) LOK.out)
         have LR := zSt (zBR (C := C) OK.out.f1 R)
         have OK2 := zSt (TOk.addCF OK.out (r := ((s : Int), R)) (by show (0 : Int) <= (s : Int); omega) (by show (s : Int) < ((top G + 1 : Nat) : Int); omega))
         have ST2 := zSt (show ∀ b1 m : Bool, (b1 = true ↔ ∃ i : Nat, rw' (zAP C F R) i = true /\ rw' (F (s : Int)) i = false) -> m = (b || (b1 || (allC C R && !C (s : Int)))) -> TriedF G (top G + 1) C0 F0 (j + 1) (addC C ((s : Int), R)) (addF C F ((s : Int), R)) m from fun b1 m hb hm => by
          rw [hm]
          refine ST.out _ ?_
          unfold grows
          dsimp only
          rw [Bool.or_eq_true, Bool.and_eq_true, hb, zO3 (m := 0) (fun t ht => (LR.out t ht.1).1)]
          simp [rw'])
         have hi0 : (0 : Int) <= (j : Int) := by omega
         have hi1 : (j : Int) < (G.rules.length : Int) := by omega
         have hs0 : (0 : Int) <= (s : Int) := by omega
         have hs1 : (s : Int) < (top G : Int) + 1 := by omega
         have hdl : D (.f s) < wr.heap.size := (S.out.s.fam.at_ _ hjf).lt
         unfold zJt at BC
         clear ST V hl
         go_wp2_with fail
         refine BC.out.mono ?_
         rintro e w5 ⟨dN, rfl, hr5, hd5, hb⟩
         have S5 := zSt (S.out.went hb)
         have PC := zSt (zAk (D (.f s)) dN (G.terms.length + 1) (G.terms.length + 1) (G.terms.length + 1) (rw' (F (s : Int))) (rw' (zAP C F R)) w5 (S5.out.s.fam.at_ _ hjf) hr5 (by omega) (fun i hi => by have := (LR.out _ hi).2; omega) (by omega))
         have g5 := G1.out _ S5.out.x.below
         clear BC S hr5 hd5 hb x0 x1 x2 x3 g1 g2
         obtain ⟨x0, x1, x2, x3⟩ := S5.out.x.box
         try dsimp only at x0 x1 x2 x3
         obtain ⟨y0, y1, y2, y3, y4, y5, y6⟩ := seven S5.out.s.box
         have z5 := S5.out.s.begins s hsn
         have CS := zSt (fun w6 (k : RAt D p q1 q2 k1 k2 (top G + 1) ⟨a1, c1, a2, c2, some ⟨b2, o2, none⟩, c3⟩ G (tv C (addF C F ((s : Int), R)) nof no0) w6) => k.setv hje (s := s) hsn (C (s : Int) || allC C R))
         have CE := zSt (zPX (C := C) (F := addF C F ((s : Int), R)) (B := nof) (s := s) (R := R))
         have ZE := zSt (fun w6 (k : RAt D p q1 q2 k1 k2 (top G + 1) ⟨a1, c1, a2, c2, some ⟨b2, o2, none⟩, c3⟩ G (tv C (addF C F ((s : Int), R)) nof no0) w6) => show w6.cell? ⟨D .e, s, none⟩ = some (.bool (C (s : Int))) from (k.fam.at_ _ hje).at_ s hsn)
         have FE := zSt (show upd (tv C F nof no0) (.f s) (fun i => rw' (F (s : Int)) i || rw' (zAP C F R) i) = tv C (addF C F ((s : Int), R)) nof no0 from tv_f (by funext i; unfold rw' addF; dsimp only; rw [decide_eq_true rfl, Bool.true_and]) (fun x hx => by funext t; unfold addF; dsimp only; rw [decide_eq_false hx]; simp))
         generalize allC C R = al at *
         generalize C (s : Int) = cs at *
         cases al <;> cases cs
         all_goals
          go_wp2_with fail
          refine PC.out.mono ?_
          rintro e w6 ⟨b1, rfl, hg1, hr6, hk6⟩
          have R6 := (S5.out.s.wrote hjf hr6 hk6).eq FE.out
          have S6 := zSt (S5.out.fr (zBZ hjf hk6) R6)
          have G6 := zSt hg1
          have SD := zSt (S6.out.went (drawn w6))
          obtain ⟨st1, st2⟩ := CS.out _ SD.out.s
          have S7 := zSt (SD.out.fr st2 (st1.eq CE.out))
          have ze := ZE.out _ S6.out.s
          have zf := (S6.out.s.fam.at_ _ hje).free s
          clear R6 hr6 hk6 hg1 y0 y1 y2 y3 y4 y5 y6 z5 x0 x1 x2 x3 PC SD st1 st2 g5
          obtain ⟨y0, y1, y2, y3, y4, y5, y6⟩ := seven S6.out.s.box
          cases b1
          all_goals
           have ST3 := zSt (fun m hm => ST2.out _ m G6.out hm)
           clear G6 ST2
           go_wp2_with fail
           go_still_tail 16, (by kernel_rfl)
           repeat still_step
           try refine wpStill_nil ?_
           try change wpList _ _ _ _ _ w6.drew
           go_wp2
           go_roundw
           case rel => exact ⟨j + 1, _, _, _, by omega, by go_num, rfl, S7.out, OK2.out, ST3.out _ (by cases b <;> rfl)⟩
           case measure => simp [intOf]; omega
        ·have E := zSt (show b = false -> Just G C F from fun e => by have := V.out; subst e; exact this.all hlr)
         have SN := zSt V.out.snd
         have LF := zSt V.out.leaf
         have YS := zSt (show b = true -> zCX C F (G.terms.length + 1) (top G + 1) < zCX C0 F0 (G.terms.length + 1) (top G + 1) from fun e => V.out.yes e)
         have hgg := GG.out
         go_wp2
         go_roundg (zCX C0 F0 (G.terms.length + 1) (top G + 1))
         case measure => omega
         case rel => exact ⟨C, F, b, rfl, S.out, OK.out, SN.out, LF.out, (fun e => by have := YS.out e; omega), E.out⟩
 ·have AN := zSt (show nlB G = true /\ ansC G = (fun _ => false) /\ ansF G = (fun _ _ => false) /\ ansB G = (fun _ _ => false) from ⟨by unfold nlB; rw [decide_eq_false hc]; rfl, by unfold ansC; rw [if_neg hc], by unfold ansF; rw [if_neg hc], by unfold ansB; rw [if_neg hc]⟩)
  have hb : (checkN G != 0) = true := by simpa using hc
  clear k hc
  generalize checkN G = ck at *
  unfold gv
  dsimp only
  go_enter Tryz.func11, Tryz.ntmps11
  go_wp2_with (go_at_call 30; refine (C.out _ X.out.below).mono ?_; rintro e w1 ⟨rfl, hb⟩; have X1 := zSt (X.out.went hb); clear hb)
  go_ret
  exact ⟨_, rfl, .inl ⟨AN.out.1, rfl, AN.out.2⟩, X1.out.below⟩
end Fr
namespace Fr
open Gr
open Fi
theorem zLQ {P : Int -> Bool} {n : Nat} (h : ∀ t, P t = false) : lst P n = [] := zFe fun i _ => h i
theorem zGB {t n : Nat} {C : Int -> Bool} {F B : Int -> Int -> Bool} (hT : TOk t n C F B) {x : Int} (hx : ¬ ((t : Int) < x /\ x < (n : Int))) (i : Int) : B x i = false := by
 cases e : B x i with
 | false => rfl
 | true => exact absurd (hT.b2 x i e) hx
theorem zHe {nl : Bool} {v : Value} {h : Sh} {G : Gram} {C : Int -> Bool} {F B : Int -> Int -> Bool} (W0 w : World) (kg : GAt h G W0) (hb0 : Below W0.heap.size W0 w) (k : WS nl v h G C F B w) (hT : nl = false -> TOk G.terms.length (top G + 1) C F B) (x : Int) :
  Calls Tryz.prog 14 #[v, .int .i64 x] w (Listed (lst (B x) (G.terms.length + 1)) w) := by
 obtain ⟨a1, c1, a2, c2, a3, c3⟩ := h
 rcases k with ⟨h1, rfl, rfl, rfl, rfl⟩ | ⟨h1, D, p, q1, q2, k1, k2, rfl, hR⟩
 ·have IC := zSt (zRY x w)
  rw [zLO]
  clear hT kg
  go_enter Tryz.func14, Tryz.ntmps14
  go_wp2_with (go_at_call 36; refine IC.out.mono ?_; rintro e w1 ⟨rfl, rfl⟩)
  go_ret
  exact ⟨none, 0, rfl, .nil _ _, (fun x h => by cases h), .refl _ _⟩
 ·have T := zSt (hT h1)
  have IC := zSt (zRW w hR x)
  have NC := zSt (zFo ⟨a1, c1, a2, c2, a3, c3⟩ G x w (kg.went hb0))
  obtain ⟨y0, y1, y2, y3, y4, y5, y6⟩ := seven hR.box
  try dsimp only at y0 y1 y2 y3
  have h4 := hR.n4
  have htp : top G = G.terms.length + G.nons.length := rfl
  have NI := zAM (G := G) (s := x)
  unfold gv at NC
  dsimp only at NC
  by_cases hx : 0 <= x /\ x < ((top G + 1 : Nat) : Int)
  ·obtain ⟨s, rfl⟩ : ∃ s : Nat, x = (s : Int) := ⟨x.toNat, by omega⟩
   have hs : s < top G + 1 := by omega
   have HR := zSt (fun w1 (b : Below w.heap.size w w1) => hR.went b)
   have LC := zSt (fun w1 (b : Below w.heap.size w w1) => zCN (B (s : Int)) (D (.g s)) (G.terms.length + 1) (G.terms.length + 1) w1 ((hR.went b).fam.at_ (.g s) hs) (by have := hR.tn; omega))
   rw [show Fi.symB (top G + 1) (s : Int) = true from decide_eq_true hx] at IC
   cases hn : nonB G (s : Int) with
   | true =>
    rw [hn] at NC
    clear hR hT hx NI htp hn kg hb0
    generalize top G + 1 = n at *
    go_enter Tryz.func14, Tryz.ntmps14
    go_wp2_with (first
     | (go_at_call 36; refine IC.out.mono ?_; rintro e w1 ⟨rfl, rfl⟩)
     | (go_at_call 37; refine NC.out.mono ?_; rintro e w2 ⟨rfl, hb⟩; have B2 := zSt hb; have R2 := HR.out _ hb; have z6 := R2.behind s hs; clear hb y0 y1 y2 y3 y4 y5 y6; obtain ⟨y0, y1, y2, y3, y4, y5, y6⟩ := seven R2.box; clear R2)
     | (go_at_call 38; refine (LC.out _ B2.out).mono ?_; rintro e w3 ⟨la, lc, rfl, hl1, hl2, hl3⟩; have LL := zSt (And.intro hl1 (And.intro hl2 hl3)); clear hl1 hl2 hl3))
    go_ret
    exact ⟨la, lc, rfl, LL.out.1, fun x hx => Nat.le_trans B2.out.size (LL.out.2.1 x hx), Gr.step B2.out LL.out.2.2⟩
   | false =>
    have E := zSt (zLQ (n := G.terms.length + 1) (zGB T.out (x := (s : Int)) (fun h => by
     have : nonB G (s : Int) = true := NI.2 (by omega)
     rw [hn] at this
     cases this)))
    rw [hn] at NC
    clear hR hT hx NI htp hn kg hb0 LC HR
    generalize top G + 1 = n at *
    go_enter Tryz.func14, Tryz.ntmps14
    go_wp2_with (first
     | (go_at_call 36; refine IC.out.mono ?_; rintro e w1 ⟨rfl, rfl⟩)
     | (go_at_call 37; refine NC.out.mono ?_; rintro e w2 ⟨rfl, hb⟩; have B2 := zSt hb; clear hb))
    go_ret
    rw [E.out]
    exact ⟨none, 0, rfl, .nil _ _, (fun x h => by cases h), B2.out⟩
  ·have E := zSt (zLQ (n := G.terms.length + 1) (zGB T.out (x := x) (fun h => hx (by omega))))
   rw [show Fi.symB (top G + 1) x = false from decide_eq_false hx] at IC
   clear hR hT hx NI htp kg hb0 NC
   go_enter Tryz.func14, Tryz.ntmps14
   go_wp2_with (go_at_call 36; refine IC.out.mono ?_; rintro e w1 ⟨rfl, rfl⟩)
   go_ret
   rw [E.out]
   exact ⟨none, 0, rfl, .nil _ _, (fun x h => by cases h), .refl _ _⟩
end Fr
namespace Lk
open Gr (Gram checkN top nonB zAW)
open Im
open Au
open Fi (folB canB fstB TOk)
theorem zQC {G : Gram} (hv : checkN G = 0) {r : Int × List Int} (hr : r ∈ G.rules) : (G.terms.length : Int) < r.1 /\ r.1 <= (top G : Int) := by
 obtain ⟨k, hk, rfl⟩ := List.getElem_of_mem hr
 rcases zAu hv (k := k) (by omega) with ⟨e, _⟩ | ⟨_, e1, e2⟩
 ·omega
 ·rw [(Gr.zAb hk).2] at e1 e2
  exact ⟨e1, e2⟩
theorem zQo {G : Gram} (hv : checkN G = 0) : TOk G.terms.length (top G + 1) (canB G) (fstB G) (folB G) := by
 have hk := (Gr.zAT hv).2.2.2.1
 have ht : top G = G.terms.length + G.nons.length := rfl
 have hnon : ∀ x, nonB G x = true -> (G.terms.length : Int) < x /\ x < ((top G + 1 : Nat) : Int) := fun x h => by
  have := Gr.zAM.1 h
  omega
 refine ⟨Fi.zMB hk, fun x t h => ?_, fun x t h => ?_, fun x t h => ?_, fun x t h => ?_⟩
 ·have := Fi.zGU (Fi.zBp.1 h)
  omega
 ·have h' := Fi.zBp.1 h
  cases h' with
  | leaf h2 =>
   rcases h2 with rfl | h2
   ·omega
   ·have := Gr.zAg.1 h2
    omega
  | rule hr _ _ _ =>
   have := zQC hv hr
   omega
 ·have := Fi.zDw (Fi.zCt.1 h)
  omega
 ·have h' := Fi.zCt.1 h
  cases h' with
  | start =>
   refine hnon _ ?_
   unfold zAW at hk
   simp only [Bool.and_eq_true] at hk
   first | exact hk.1.1 | exact hk.1 | exact hk.2 | exact hk.1.2 | exact hk.2.1
  | next _ _ hn _ => exact hnon _ hn
  | last _ _ hn _ _ => exact hnon _ hn
