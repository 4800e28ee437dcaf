/- A part of the proof. -/
import Derived.Test.YtbajcecncgdpmaaGreatDoorPk43
import Derived.Test.YtbajcecncgdpmaaGreatDoorPk33
import Derived.Test.YtbajcecncgdpmaaGreatDoorPk39
set_option maxHeartbeats 4000000
set_option maxRecDepth 100000
set_option linter.unusedVariables false
namespace Go.Proofs.YtbajcecncgdpmaaGreatDoor
open Go.RowKit Go.Maps
namespace Fr
open Gr
open Fi
theorem zM2 {nl : Bool} {v : Value} {h : Sh} {G : Gram} {C : Int -> Bool} {F B : Int -> Int -> Bool} (w : World) (k : WS nl v h G C F B w) (hT : nl = false -> TOk G.terms.length (top G + 1) C F B) (L : List Int) (a : Option Addr) (c : Nat) (hR : Sep.Reads a (ivs L) w) (hL : LOk L c) :
  Calls Tryz.prog 83 #[v, .slice a L.length c] w (zRn (lst (zAO C F L) (G.terms.length + 1)) (!nl && allC C L) w) := by
 rcases k with ⟨rfl, rfl, rfl, rfl, rfl⟩ | ⟨rfl, D, p, q1, q2, k1, k2, rfl, hRt⟩
 ·have e : lst (zAO (fun _ => false) (fun _ _ => false) L) (G.terms.length + 1) = [] := zIc fun i _ => zD7 _ _
  rw [e]
  clear hT hR hL
  go_enter Tryz.func83, Tryz.ntmps83
  go_wp2
  go_ret2
  exact ⟨none, 0, rfl, .nil _ _, (fun x h => by cases h), .refl _ _⟩
 ·have BC := zUB (zEj w hRt (hT rfl) L a c hR hL)
  have htn := hRt.tn
  have hn4 := hRt.n4
  have LC := zUB (fun d w1 (b : BRow d (G.terms.length + 1) (rw' (zAO C F L)) w1) => zCh (zAO C F L) d (G.terms.length + 1) (G.terms.length + 1) w1 b (by omega))
  unfold zIq at BC
  clear hT hRt hR hL
  generalize allC C L = al at *
  rw [Bool.not_false, Bool.true_and]
  go_enter Tryz.func83, Tryz.ntmps83
  go_wp2_with (first
   | (go_at_call 33; refine BC.out.mono ?_; rintro e w1 ⟨d, rfl, hr1, _, hb⟩; have B1 := zUB hb; have R1 := zUB hr1; clear hb hr1)
   | (go_at_call 38; refine (LC.out _ _ R1.out).mono ?_; rintro e w3 ⟨la, lc, rfl, hl1, hl2, hl3⟩; have LL := zUB (And.intro hl1 (And.intro hl2 hl3)); clear hl1 hl2 hl3))
  go_ret2
  exact ⟨la, lc, rfl, LL.out.1, fun x hx => Nat.le_trans B1.out.size (LL.out.2.1 x hx), Gr.step B1.out LL.out.2.2⟩
end Fr
namespace Lk
open Gr (Gram Sh cell_later)
open Im
open Fr (BRow)
open Bt (Keeps)
open Rw (Bk)
def InP (n : Nat) (Y : Nat -> List Itm) (i k : Nat) : Prop := i < n /\ k < (Y i).length
def Rs (n : Nat) (Y : Nat -> List Itm) (D : Nat -> Nat -> Nat) (b : Nat) : Prop := ∃ i k, InP n Y i k /\ b = D i k
theorem zQV {a : Option Addr} {X : List Itm} {w w' : World} (h : ItsA a X w) (hb : ∀ b o, a = some ⟨b, o, none⟩ -> b < w.heap.size -> w'.heap[b]? = w.heap[b]?) : ItsA a X w' := by
 rcases Nat.eq_zero_or_pos X.length with h0 | h0
 ·rw [List.length_eq_zero_iff.1 h0]
  exact .nil _ _
 ·refine h.keep fun b o e => hb b o e ?_
  obtain ⟨b1, o1, e1, h1, _⟩ := h.at 0 h0
  rw [e] at e1
  simp only [Option.some.injEq, Addr.mk.injEq, and_true] at e1
  obtain ⟨rfl, rfl⟩ := e1
  exact World.block_lt_of_cell? _ _ h1
structure LkAt (W : World) (h : Sh) (G : Gram) (aL : Option Addr) (cL n : Nat) (vF : Value) (Y : Nat -> List Itm) (M : Nat -> Nat) (D : Nat -> Nat -> Nat) (p q1 q2 k1 k2 : Nat) (H : Tb) (w : World) : Prop where
 below : Below W.heap.size W w
 box : Bk p #[.slice h.a1 G.terms.length h.c1, .slice h.a2 G.nons.length h.c2, .slice h.a3 G.rules.length h.c3, .int .i64 G.start, .slice aL n cL, vF, .slice (some ⟨q1, 0, none⟩) n k1, .slice (some ⟨q2, 0, none⟩) n k2] 64 w
 items : ∀ i, i < n -> ∃ a c, w.cell? ⟨q1, i, none⟩ = some (.slice a (Y i).length c) /\ ItsA a (Y i) w /\ ∀ b o, a = some ⟨b, o, none⟩ -> ¬ Rs n Y D b
 has : ∀ i, i < n -> ∃ a c, w.cell? ⟨q2, i, none⟩ = some (.slice a (Y i).length c) /\ ∀ k, k < (Y i).length -> a = some ⟨M i, 0, none⟩ /\ w.cell? ⟨M i, k, none⟩ = some (.slice (some ⟨D i k, 0, none⟩) (G.terms.length + 1) (G.terms.length + 1))
 row : ∀ i k (hi : i < n) (hk : k < (Y i).length), BRow (D i k) (G.terms.length + 1) (fun t => H i (Y i)[k] (t : Int)) w
 inj : ∀ i k j l, InP n Y i k -> InP n Y j l -> D i k = D j l -> i = j /\ k = l
 new : ∀ i k, InP n Y i k -> W.heap.size <= D i k
 off : ¬ Rs n Y D p /\ ¬ Rs n Y D q1 /\ ¬ Rs n Y D q2 /\ ∀ i, i < n -> ¬ Rs n Y D (M i)
theorem LkAt.went {W : World} {h : Sh} {G : Gram} {aL : Option Addr} {cL n : Nat} {vF : Value} {Y : Nat -> List Itm} {M : Nat -> Nat} {D : Nat -> Nat -> Nat} {p q1 q2 k1 k2 : Nat} {H : Tb} {w w' : World} (k : LkAt W h G aL cL n vF Y M D p q1 q2 k1 k2 H w) (hb : Below w.heap.size w w') : LkAt W h G aL cL n vF Y M D p q1 q2 k1 k2 H w' := by
 refine ⟨Gr.step k.below hb, k.box.went hb, fun i hi => ?_, fun i hi => ?_, fun i l hi hl => (k.row i l hi hl).went hb, k.inj, k.new, k.off⟩
 ·obtain ⟨a, c, h1, h2, h3⟩ := k.items i hi
  exact ⟨a, c, cell_later hb h1, h2.went hb, h3⟩
 ·obtain ⟨a, c, h1, h2⟩ := k.has i hi
  exact ⟨a, c, cell_later hb h1, fun l hl => ⟨(h2 l hl).1, cell_later hb (h2 l hl).2⟩⟩
theorem zPO {L : List Itm} (h : L.Nodup) {i j : Nat} (hi : i < L.length) (hj : j < L.length) (e : L[i] = L[j]) : i = j := by
 rcases Nat.lt_trichotomy i j with k | k | k
 ·exact absurd e (List.pairwise_iff_getElem.1 h i j hi hj k)
 ·exact k
 ·exact absurd e.symm (List.pairwise_iff_getElem.1 h j i hj hi k)
theorem LkAt.set {W : World} {h : Sh} {G : Gram} {aL : Option Addr} {cL n : Nat} {vF : Value} {Y : Nat -> List Itm} {M : Nat -> Nat} {D : Nat -> Nat -> Nat} {p q1 q2 k1 k2 : Nat} {H : Tb} {w : World} (k : LkAt W h G aL cL n vF Y M D p q1 q2 k1 k2 H w) (hY : ∀ i, i < n -> (Y i).Nodup) {i l : Nat} (hi : i < n) (hl : l < (Y i).length) {t : Nat} (ht : t < G.terms.length + 1) :
  LkAt W h G aL cL n vF Y M D p q1 q2 k1 k2 (addT n Y H [((i : Int), (Y i)[l], (t : Int))]) (w.setCell ⟨D i l, t, none⟩ (.bool true)) /\ Sep.Fr (Rs n Y D) w (w.setCell ⟨D i l, t, none⟩ (.bool true)) := by
 have me : Rs n Y D (D i l) := ⟨i, l, ⟨hi, hl⟩, rfl⟩
 have hp : hasP n Y (i : Int) (Y i)[l] = true := zB9.2 ⟨hi, List.getElem_mem hl⟩
 have hF : Sep.Fr (Rs n Y D) w (w.setCell ⟨D i l, t, none⟩ (.bool true)) := (Sep.Fr.refl _ w).setCell _ me _
 have hK : Keeps (D i l) w (w.setCell ⟨D i l, t, none⟩ (.bool true)) := (Keeps.refl _ w).setCell _ _
 refine ⟨⟨?_, k.box.fr hF k.off.1, fun j hj => ?_, fun j hj => ?_, fun j m hj hm => ?_, k.inj, k.new, k.off⟩, hF⟩
 ·have : Below W.heap.size w (w.setCell ⟨D i l, t, none⟩ (.bool true)) := hK.below (k.new i l ⟨hi, hl⟩) k.below.size
  exact k.below.trans this
 ·obtain ⟨a, c, h1, h2, h3⟩ := k.items j hj
  exact ⟨a, c, hF.cell h1 k.off.2.1, zQV h2 fun b o e hb => hF.block b hb (h3 b o e), h3⟩
 ·obtain ⟨a, c, h1, h2⟩ := k.has j hj
  exact ⟨a, c, hF.cell h1 k.off.2.2.1, fun m hm => ⟨(h2 m hm).1, hF.cell (h2 m hm).2 (k.off.2.2.2 j hj)⟩⟩
 ·by_cases e : D j m = D i l
  ·obtain ⟨e1, e2⟩ := k.inj j m i l ⟨hj, hm⟩ ⟨hi, hl⟩ e
   subst e1 e2
   refine ((k.row j m hj hm).set ht).congr fun s hs => ?_
   rw [zJL hp]
   congr 1
   rw [decide_eq_decide]
   constructor
   ·rintro rfl
    exact ⟨rfl, rfl, rfl⟩
   ·rintro ⟨_, _, e⟩
    omega
  ·refine ((k.row j m hj hm).keeps hK e).congr fun s hs => ?_
   rw [zJL hp]
   have : decide (j = i /\ (Y j)[m] = (Y i)[l] /\ (s : Int) = (t : Int)) = false := by
    refine decide_eq_false ?_
    rintro ⟨rfl, e2, _⟩
    exact e (by rw [zPO (hY _ hi) hm hl e2])
   rw [this, Bool.or_false]
theorem eight {q : Nat} {a b c d e f g i : Value} {T : TypeId} {w : World} (h : Bk q #[a, b, c, d, e, f, g, i] T w) : w.cell? ⟨q, 0, none⟩ = some a /\ w.cell? ⟨q, 1, none⟩ = some b /\ w.cell? ⟨q, 2, none⟩ = some c /\ w.cell? ⟨q, 3, none⟩ = some d /\ w.cell? ⟨q, 4, none⟩ = some e /\ w.cell? ⟨q, 5, none⟩ = some f /\ w.cell? ⟨q, 6, none⟩ = some g /\ w.cell? ⟨q, 7, none⟩ = some i :=
 ⟨h.cell rfl, h.cell rfl, h.cell rfl, h.cell rfl, h.cell rfl, h.cell rfl, h.cell rfl, h.cell rfl⟩
def PutR (W : World) (h : Sh) (G : Gram) (aL : Option Addr) (cL n : Nat) (vF : Value) (Y : Nat -> List Itm) (M : Nat -> Nat) (D : Nat -> Nat -> Nat) (p q1 q2 k1 k2 : Nat) (H : Tb) (l : List En) (w : World) (e : Ending) (w' : World) : Prop :=
 e = .returned (.bool (newT n Y H l)) /\ LkAt W h G aL cL n vF Y M D p q1 q2 k1 k2 (addT n Y H l) w' /\ Sep.Fr (Rs n Y D) w w'
end Lk
namespace Lk
open Gr (Gram Sh boxed drawn cell_later zAE)
open Im
theorem zBd {W : World} {h : Sh} {G : Gram} {aL : Option Addr} {cL n : Nat} {vF : Value} {Y : Nat -> List Itm} {M : Nat -> Nat} {D : Nat -> Nat -> Nat} {p q1 q2 k1 k2 : Nat} {H : Tb} (w : World) (k : LkAt W h G aL cL n vF Y M D p q1 q2 k1 k2 H w)
  (hY : ∀ i, i < n -> (Y i).Nodup /\ (Y i).length <= 100000) (hn : n <= 100000) (hg : G.terms.length <= 1000) (i : Int) (x : Itm) (t : Int) (ht : 0 <= t /\ t < ((G.terms.length + 1 : Nat) : Int)) :
  Calls Tryz.prog 49 #[.pointer (some ⟨p, 0, none⟩), .int .i64 i, iv x, .int .i64 t] w (PutR W h G aL cL n vF Y M D p q1 q2 k1 k2 H [(i, x, t)] w) := by
 have B0 := zUB (Bp.start x w 57)
 have K1 := zUB (k.went (boxed w (.cells #[.int .i64 x.1, .int .i64 x.2] 57)))
 obtain ⟨y0, y1, y2, y3, y4, y5, y6, y7⟩ := eight K1.out.box
 obtain ⟨t, rfl⟩ := Int.eq_ofNat_of_zero_le ht.1
 have htl : t < G.terms.length + 1 := by omega
 by_cases hi : 0 <= i /\ i < (n : Int)
 ·obtain ⟨i, rfl⟩ := Int.eq_ofNat_of_zero_le hi.1
  have hin : i < n := by omega
  obtain ⟨a, c, z1, z2, z3⟩ := K1.out.items i hin
  have IX := zUB (fun w1 (b : Below (w.alloc (.cells #[.int .i64 x.1, .int .i64 x.2] 57)).heap.size (w.alloc (.cells #[.int .i64 x.1, .int .i64 x.2] 57)) w1) => zGf (Y i) a c x w1 (z2.went b) (hY i hin).2)
  have hyl := (hY i hin).2
  by_cases hx : x ∈ Y i
  ·obtain ⟨l, e1, hl, e2⟩ := zE9 hx
   rw [e1] at IX
   have hp : hasP n Y (i : Int) x = true := zB9.2 ⟨hin, hx⟩
   have ND := zUB (fun i hi => (hY i hi).1)
   have EX := zUB e2
   clear hY hi k z2 z3 e1 e2
   have CELLS := zUB (fun w1 (q : LkAt W h G aL cL n vF Y M D p q1 q2 k1 k2 H w1) => (show ∃ a c, w1.cell? ⟨p, 7, none⟩ = some (.slice (some ⟨q2, 0, none⟩) n k2) /\ w1.cell? ⟨q2, i, none⟩ = some (.slice a (Y i).length c) /\ a = some ⟨M i, 0, none⟩ /\ w1.cell? ⟨M i, l, none⟩ = some (.slice (some ⟨D i l, 0, none⟩) (G.terms.length + 1) (G.terms.length + 1)) /\ w1.cell? ⟨D i l, t, none⟩ = some (.bool (H i x (t : Int))) /\ ∀ j, w1.frozen? ⟨D i l, j, none⟩ = false from by
    obtain ⟨_, _, _, _, _, _, _, u7⟩ := eight q.box
    obtain ⟨a, c, g1, g2⟩ := q.has i hin
    have r := q.row i l hin hl
    refine ⟨a, c, u7, g1, (g2 l hl).1, (g2 l hl).2, ?_, r.free⟩
    have := r.at_ t htl
    rw [EX.out] at this
    exact this))
   have SET := zUB (fun w1 (q : LkAt W h G aL cL n vF Y M D p q1 q2 k1 k2 H w1) => (show LkAt W h G aL cL n vF Y M D p q1 q2 k1 k2 (addT n Y H [((i : Int), x, (t : Int))]) (w1.setCell ⟨D i l, t, none⟩ (.bool true)) /\ Sep.Fr (Rs n Y D) w1 (w1.setCell ⟨D i l, t, none⟩ (.bool true)) from by
    have := q.set ND.out hin hl htl
    rw [EX.out] at this
    exact this))
   cases hH : H i x (t : Int) with
   | true =>
    have E := zUB (show newT n Y H [((i : Int), x, (t : Int))] = false by rw [zJQ hp, hH]; rfl)
    have E2 := zUB (zEW E.out)
    rw [hH] at CELLS
    have hil : (i : Int) < (n : Int) := by omega
    have hll : l < (Y i).length := hl
    clear hp hH SET EX
    obtain ⟨xr, xd⟩ := x
    unfold iv at *
    dsimp only at *
    generalize (Y i).length = yl at *
    go_enter Tryz.func49, Tryz.ntmps49
    go_wp2_with fail
    generalize hw1 : w.alloc (.cells #[.int .i64 xr, .int .i64 xd] 57) = w1 at *
    have HQ := zUB (fun w' (b : Below w1.heap.size w1 w') => (show w'.cell? ⟨p, 6, none⟩ = some (.slice (some ⟨q1, 0, none⟩) n k1) /\ w'.cell? ⟨q1, i, none⟩ = some (.slice a yl c) /\ w'.cell? ⟨w.heap.size, 0, none⟩ = some (.int .i64 xr) /\ w'.cell? ⟨w.heap.size, 1, none⟩ = some (.int .i64 xd) from ⟨cell_later b y6, cell_later b z1, cell_later b B0.out.i0, cell_later b B0.out.i1⟩))
    have kA := drawn w1
    clear y0 y1 y2 y3 y4 y5 y6 y7 z1
    go_region_held3 (fun w' => w'.cell? ⟨p, 6, none⟩ = some (.slice (some ⟨q1, 0, none⟩) n k1) /\ w'.cell? ⟨q1, i, none⟩ = some (.slice a yl c) /\ w'.cell? ⟨w.heap.size, 0, none⟩ = some (.int .i64 xr) /\ w'.cell? ⟨w.heap.size, 1, none⟩ = some (.int .i64 xd))
     (exact HQ.out _ (by assumption))
     (first
      | (go_at_call 21; refine (IX.out _ kA).mono ?_; rintro e w2 ⟨rfl, hb⟩; have k2 : Below w1.heap.size w1 w2 := Gr.step kA hb; clear hb)
      | fail)
    have K2 := zUB (K1.out.went k2)
    obtain ⟨a2, c2, v7, v8, rfl, v9, v10, v11⟩ := CELLS.out _ K2.out
    have HB := zUB (B0.out.went k2).below
    go_wp2_with fail
    go_ret
    exact ⟨zAE E.out, by rw [E2.out]; exact K2.out, .of_below HB.out⟩
   | false =>
    have E := zUB (show newT n Y H [((i : Int), x, (t : Int))] = true by rw [zJQ hp, hH]; rfl)
    rw [hH] at CELLS
    have hil : (i : Int) < (n : Int) := by omega
    have hll : l < (Y i).length := hl
    clear hp hH EX
    obtain ⟨xr, xd⟩ := x
    unfold iv at *
    dsimp only at *
    generalize (Y i).length = yl at *
    go_enter Tryz.func49, Tryz.ntmps49
    go_wp2_with fail
    generalize hw1 : w.alloc (.cells #[.int .i64 xr, .int .i64 xd] 57) = w1 at *
    have HQ := zUB (fun w' (b : Below w1.heap.size w1 w') => (show w'.cell? ⟨p, 6, none⟩ = some (.slice (some ⟨q1, 0, none⟩) n k1) /\ w'.cell? ⟨q1, i, none⟩ = some (.slice a yl c) /\ w'.cell? ⟨w.heap.size, 0, none⟩ = some (.int .i64 xr) /\ w'.cell? ⟨w.heap.size, 1, none⟩ = some (.int .i64 xd) from ⟨cell_later b y6, cell_later b z1, cell_later b B0.out.i0, cell_later b B0.out.i1⟩))
    have kA := drawn w1
    clear y0 y1 y2 y3 y4 y5 y6 y7 z1
    go_region_held3 (fun w' => w'.cell? ⟨p, 6, none⟩ = some (.slice (some ⟨q1, 0, none⟩) n k1) /\ w'.cell? ⟨q1, i, none⟩ = some (.slice a yl c) /\ w'.cell? ⟨w.heap.size, 0, none⟩ = some (.int .i64 xr) /\ w'.cell? ⟨w.heap.size, 1, none⟩ = some (.int .i64 xd))
     (exact HQ.out _ (by assumption))
     (first
      | (go_at_call 21; refine (IX.out _ kA).mono ?_; rintro e w2 ⟨rfl, hb⟩; have k2 : Below w1.heap.size w1 w2 := Gr.step kA hb; clear hb)
      | fail)
    have K2 := zUB (K1.out.went k2)
    obtain ⟨a2, c2, v7, v8, rfl, v9, v10, v11⟩ := CELLS.out _ K2.out
    have HB := zUB (B0.out.went k2).below
    have S2 := zUB (SET.out _ K2.out)
    go_wp2_with fail
    go_ret
    exact ⟨zAE E.out, S2.out.1, (Sep.Fr.of_below (S := Rs n Y D) HB.out).trans S2.out.2 fun b hb => .inl hb⟩
  ·have hp : hasP n Y (i : Int) x = false := by
    cases e : hasP n Y (i : Int) x with
    | false => rfl
    | true => exact absurd (zB9.1 e).2 hx
   have E := zUB (zI5 (H := H) (e := ((i : Int), x, (t : Int))) hp)
   rw [zIJ hx] at IX
   have hil : (i : Int) < (n : Int) := by omega
   clear hY hi k z2 z3 hx hp
   obtain ⟨xr, xd⟩ := x
   unfold iv at *
   dsimp only at *
   generalize (Y i).length = yl at *
   go_enter Tryz.func49, Tryz.ntmps49
   go_wp2_with fail
   generalize hw1 : w.alloc (.cells #[.int .i64 xr, .int .i64 xd] 57) = w1 at *
   have HQ := zUB (fun w' (b : Below w1.heap.size w1 w') => (show w'.cell? ⟨p, 6, none⟩ = some (.slice (some ⟨q1, 0, none⟩) n k1) /\ w'.cell? ⟨q1, i, none⟩ = some (.slice a yl c) /\ w'.cell? ⟨w.heap.size, 0, none⟩ = some (.int .i64 xr) /\ w'.cell? ⟨w.heap.size, 1, none⟩ = some (.int .i64 xd) from ⟨cell_later b y6, cell_later b z1, cell_later b B0.out.i0, cell_later b B0.out.i1⟩))
   have kA := drawn w1
   clear y0 y1 y2 y3 y4 y5 y6 y7 z1
   go_region_held3 (fun w' => w'.cell? ⟨p, 6, none⟩ = some (.slice (some ⟨q1, 0, none⟩) n k1) /\ w'.cell? ⟨q1, i, none⟩ = some (.slice a yl c) /\ w'.cell? ⟨w.heap.size, 0, none⟩ = some (.int .i64 xr) /\ w'.cell? ⟨w.heap.size, 1, none⟩ = some (.int .i64 xd))
    (exact HQ.out _ (by assumption))
    (first
     | (go_at_call 21; refine (IX.out _ kA).mono ?_; rintro e w2 ⟨rfl, hb⟩; have k2 : Below w1.heap.size w1 w2 := Gr.step kA hb; clear hb)
     | fail)
   have K2 := zUB (K1.out.went k2)
   have HB := zUB (B0.out.went k2).below
   go_wp2_with fail
   go_ret
   exact ⟨zAE E.out.2, by rw [E.out.1]; exact K2.out, .of_below HB.out⟩
 ·have hp : hasP n Y i x = false := by
   cases e : hasP n Y i x with
   | false => rfl
   | true => 
    obtain ⟨j, rfl, hj, _⟩ := zF0.1 e
    exact absurd ⟨by omega, by omega⟩ hi
  have E := zUB (zI5 (H := H) (e := (i, x, (t : Int))) hp)
  clear hp k hY
  by_cases h0 : 0 <= i
  ·have h1 : ¬ i < (n : Int) := fun q => hi ⟨h0, q⟩
   clear hi
   obtain ⟨xr, xd⟩ := x
   unfold iv at *
   dsimp only at *
   go_enter Tryz.func49, Tryz.ntmps49
   go_wp2
   go_ret
   exact ⟨zAE E.out.2, by rw [E.out.1]; exact K1.out, .of_below B0.out.below⟩
  ·have h1 : i < 0 := by omega
   clear hi
   obtain ⟨xr, xd⟩ := x
   unfold iv at *
   dsimp only at *
   go_enter Tryz.func49, Tryz.ntmps49
   go_wp2
   go_ret
   exact ⟨zAE E.out.2, by rw [E.out.1]; exact K1.out, .of_below B0.out.below⟩
end Lk
namespace Lk
open Gr (Gram Sh GAt boxed zAA cell_later checkN ivs)
open Im
open Au
section
variable {W : World} {h : Sh} {G : Gram} {aL : Option Addr} {cL n : Nat} {vF : Value} {Y : Nat -> List Itm} {M : Nat -> Nat} {D : Nat -> Nat -> Nat} {p q1 q2 k1 k2 : Nat} {H : Tb}
theorem LkAt.rs_lt {w : World} (k : LkAt W h G aL cL n vF Y M D p q1 q2 k1 k2 H w) {b : Nat} (hb : Rs n Y D b) : b < w.heap.size := by
 obtain ⟨i, l, ⟨h1, h2⟩, rfl⟩ := hb
 exact (k.row i l h1 h2).lt
end
structure Sp (W : World) (h : Sh) (G : Gram) (aL : Option Addr) (cL n : Nat) (vF : Value) (Y : Nat -> List Itm) (M : Nat -> Nat) (D : Nat -> Nat -> Nat) (p q1 q2 k1 k2 : Nat) (H : Tb) (w0 : World) (x : Itm) (l : List En) (w : World) : Prop where
 lk : LkAt W h G aL cL n vF Y M D p q1 q2 k1 k2 (addT n Y H l) w
 i0 : w.cell? ⟨w0.heap.size, 0, none⟩ = some (.int .i64 x.1)
 i1 : w.cell? ⟨w0.heap.size, 1, none⟩ = some (.int .i64 x.2)
 fr : Sep.Fr (Rs n Y D) w0 w
 off : ∀ b, Rs n Y D b -> b < w0.heap.size
section
variable {W : World} {h : Sh} {G : Gram} {aL : Option Addr} {cL n : Nat} {vF : Value} {Y : Nat -> List Itm} {M : Nat -> Nat} {D : Nat -> Nat -> Nat} {p q1 q2 k1 k2 : Nat} {H : Tb} {w0 : World} {x : Itm} {l : List En}
theorem Sp.start {w : World} (k : LkAt W h G aL cL n vF Y M D p q1 q2 k1 k2 H w) (x : Itm) : Sp W h G aL cL n vF Y M D p q1 q2 k1 k2 H w x [] (w.alloc (.cells #[.int .i64 x.1, .int .i64 x.2] 57)) :=
 ⟨by rw [zJA]; exact k.went (boxed _ _), zAA rfl rfl, zAA rfl rfl, .of_below (boxed _ _), fun b hb => k.rs_lt hb⟩
theorem Sp.went {w w' : World} (k : Sp W h G aL cL n vF Y M D p q1 q2 k1 k2 H w0 x l w) (hb : Below w.heap.size w w') : Sp W h G aL cL n vF Y M D p q1 q2 k1 k2 H w0 x l w' :=
 ⟨k.lk.went hb, cell_later hb k.i0, cell_later hb k.i1, k.fr.trans (.of_below hb) fun b hb => .inl hb, k.off⟩
theorem Sp.put {w w' : World} (k : Sp W h G aL cL n vF Y M D p q1 q2 k1 k2 H w0 x l w) {m : List En} {e : Ending} (q : PutR W h G aL cL n vF Y M D p q1 q2 k1 k2 (addT n Y H l) m w e w') : e = .returned (.bool (newT n Y (addT n Y H l) m)) /\ Sp W h G aL cL n vF Y M D p q1 q2 k1 k2 H w0 x (l ++ m) w' := by
 obtain ⟨q1, q2, q3⟩ := q
 have hne : ¬ Rs n Y D w0.heap.size := fun hb => by
  have := k.off _ hb
  omega
 exact ⟨q1, by rw [← zPD]; exact q2, q3.cell k.i0 hne, q3.cell k.i1 hne, k.fr.trans q3 fun b hb => .inl hb, k.off⟩
theorem Sp.done {w : World} (k : Sp W h G aL cL n vF Y M D p q1 q2 k1 k2 H w0 x l w) {b : Bool} (hb : b = newT n Y H l) : PutR W h G aL cL n vF Y M D p q1 q2 k1 k2 H l w0 (.returned (.bool b)) w := ⟨by rw [hb], k.lk, k.fr⟩
theorem Sp.cells {w : World} (k : Sp W h G aL cL n vF Y M D p q1 q2 k1 k2 H w0 x l w) : w.cell? ⟨p, 0, none⟩ = some (.slice h.a1 G.terms.length h.c1) /\ w.cell? ⟨p, 1, none⟩ = some (.slice h.a2 G.nons.length h.c2) /\ w.cell? ⟨p, 2, none⟩ = some (.slice h.a3 G.rules.length h.c3) /\ w.cell? ⟨p, 3, none⟩ = some (.int .i64 G.start) /\ w.cell? ⟨p, 4, none⟩ = some (.slice aL n cL) /\ w.cell? ⟨p, 5, none⟩ = some vF /\ w.cell? ⟨w0.heap.size, 0, none⟩ = some (.int .i64 x.1) /\ w.cell? ⟨w0.heap.size, 1, none⟩ = some (.int .i64 x.2) := by
 obtain ⟨y0, y1, y2, y3, y4, y5, _, _⟩ := eight k.lk.box
 exact ⟨y0, y1, y2, y3, y4, y5, k.i0, k.i1⟩
theorem Sp.box_off {w : World} (k : Sp W h G aL cL n vF Y M D p q1 q2 k1 k2 H w0 x l w) : ¬ Rs n Y D w0.heap.size := fun hb => by
 have := k.off _ hb
 omega
theorem Sp.cells_fr {w w' : World} (k : Sp W h G aL cL n vF Y M D p q1 q2 k1 k2 H w0 x l w) (f : Sep.Fr (Rs n Y D) w w') : w'.cell? ⟨p, 0, none⟩ = some (.slice h.a1 G.terms.length h.c1) /\ w'.cell? ⟨p, 1, none⟩ = some (.slice h.a2 G.nons.length h.c2) /\ w'.cell? ⟨p, 2, none⟩ = some (.slice h.a3 G.rules.length h.c3) /\ w'.cell? ⟨p, 3, none⟩ = some (.int .i64 G.start) /\ w'.cell? ⟨p, 4, none⟩ = some (.slice aL n cL) /\ w'.cell? ⟨p, 5, none⟩ = some vF /\ w'.cell? ⟨w0.heap.size, 0, none⟩ = some (.int .i64 x.1) /\ w'.cell? ⟨w0.heap.size, 1, none⟩ = some (.int .i64 x.2) := by
 obtain ⟨y0, y1, y2, y3, y4, y5, y6, y7⟩ := k.cells
 have a := k.lk.off.1
 have b := k.box_off
 exact ⟨f.cell y0 a, f.cell y1 a, f.cell y2 a, f.cell y3 a, f.cell y4 a, f.cell y5 a, f.cell y6 b, f.cell y7 b⟩
end
structure Base (W : World) (h : Sh) (G : Gram) (q : Whole) (aL : Option Addr) (vF : Value) (n : Nat) (Y : Nat -> List Itm) : Prop where
 ok : checkN G = 0
 gram : GAt h G W
 done : Done G q
 sts : StaA aL (states q) W
 small : Small (states q)
 len : n = (states q).length
 sets : Fr.WS false vF h G (Fi.canB G) (Fi.fstB G) (Fi.folB G) W
 tok : Fi.TOk G.terms.length (Gr.top G + 1) (Fi.canB G) (Fi.fstB G) (Fi.folB G)
 lists : ∀ i, i < n -> (Y i).Nodup /\ (Y i).length <= 100000
 cap : n <= 100000
theorem Base.goto {W : World} {h : Sh} {G : Gram} {q : Whole} {aL : Option Addr} {vF : Value} {n : Nat} {Y : Nat -> List Itm} (k : Base W h G q aL vF n Y) {i : Nat} (hi : i < n) (s : Int) : zE1 (states q) (i : Int) s = leads (q.2.getD i []) s := by
 have hi2 : i < (states q).length := k.len ▸ hi
 have hq := k.done.all
 rw [zDJ hi2]
 have hl : i < q.1.length := by rw [← zAo hq]; exact hi2
 have := zBk hq hl
 rw [List.getElem?_eq_getElem hi2] at this
 injection this with this
 rw [this]
theorem zKX {wb wc : World} {rb : Nat} {rr : List Int} {ra : Option Addr} {rc : Nat} (h : BoxC wb wc rb rr ra rc) (hn : ∀ d (hd : d < rr.length), rr[d] ≠ 0) : Sep.Reads ra (ivs rr) wc := fun i hi => by
 have hi' : i < rr.length := by simpa [ivs] using hi
 obtain ⟨b2, o2, e, hc⟩ := h.at_ i hi' (hn i hi')
 exact ⟨b2, o2, e, by simpa [ivs, Gr.iv] using hc⟩
theorem zDB {G : Gram} {q : Whole} {i : Nat} {x : Itm} {t : Int} (h : behB G x = false) : outL G q i x t = [] := by
 unfold outL
 rw [h, if_neg Bool.false_ne_true]
theorem zN0 {G : Gram} {q : Whole} {i : Nat} {x : Itm} {t : Int} (h : behB G x = true) (k : Gr.nonB G (behV G x) = false) : outL G q i x t = [(leads (q.2.getD i []) (behV G x), (x.1, x.2 + 1), t)] := by
 unfold outL
 rw [if_pos h, k, if_neg Bool.false_ne_true]
def zEE (i : Nat) (rs : List Nat) (us : List Int) : List En := rs.flatMap fun (r : Nat) => us.map fun u => ((i : Int), ((r : Int), 0), u)
theorem zGd (i : Nat) (us : List Int) : zEE i [] us = [] := rfl
theorem zLY (i : Nat) (rs : List Nat) (us : List Int) (r : Nat) : zEE i (rs ++ [r]) us = zEE i rs us ++ us.map fun u => ((i : Int), ((r : Int), 0), u) := by
 unfold zEE
 rw [List.flatMap_append, List.flatMap_cons, List.flatMap_nil, List.append_nil]
theorem zR2 {G : Gram} {q : Whole} {i : Nat} {x : Itm} {t : Int} (h : behB G x = true) (k : Gr.nonB G (behV G x) = true) : outL G q i x t = [(leads (q.2.getD i []) (behV G x), (x.1, x.2 + 1), t)] ++ zEE i (Gr.ofN G (behV G x)) (Fi.lst (Fi.zAO (Fi.canB G) (Fi.fstB G) (zEh G x ++ [t])) (G.terms.length + 1)) := by
 unfold outL zEE
 rw [if_pos h, if_pos k]
 rfl
