/- A part of the proof. -/
import Derived.Test.YtbajcecncgdpmaaGreatDoorPk30
set_option maxHeartbeats 16000000
set_option maxRecDepth 100000
set_option linter.unusedVariables false
namespace Go.Proofs.YtbajcecncgdpmaaGreatDoor
namespace Fr
open Go.RowKit Go.Maps
open Gr
open Fi
open Bt (Keeps)
open Rw (Bk)
def zSN (D : Ix -> Nat) (p q1 q2 k1 k2 n : Nat) (h : Sh) (G : Gram) (B0 : Int -> Int -> Bool) (j : Nat) (b0 : Bool) (w : World) (e : Ending) (w' : World) : Prop :=
 ∃ b B, e = .returned (.bool b) /\ TriedB G n (canB G) (fstB G) B0 (j + 1) 0 B (b0 || b) /\ TOk G.terms.length n (canB G) (fstB G) B /\ RAt D p q1 q2 k1 k2 n h G (tv (canB G) (fstB G) B no0) w' /\ Sep.Fr (Ds (Jn n) D) w w'
structure GSt (D : Ix -> Nat) (p q1 q2 k1 k2 n : Nat) (h : Sh) (G : Gram) (B0 : Int -> Int -> Bool) (j k : Nat) (b0 b : Bool) (B : Int -> Int -> Bool) (W : World) (u0 u1 : Value) (w : World) : Prop where
 tr : TriedB G n (canB G) (fstB G) B0 j k B (b0 || b)
 ok : TOk G.terms.length n (canB G) (fstB G) B
 s : RAt D p q1 q2 k1 k2 n h G (tv (canB G) (fstB G) B no0) w
 fr : Sep.Fr (Ds (Jn n) D) W w
 box : Bk W.heap.size #[u0, u1] 41 w
def zSB (D : Ix -> Nat) (p q1 q2 k1 k2 n : Nat) (h : Sh) (G : Gram) (B0 : Int -> Int -> Bool) (j : Nat) (b0 : Bool) (W : World) (u0 u1 : Value) (l : Nat) (m i : Value) (w : World) : Prop :=
 ∃ (k : Nat) (b : Bool) (B : Int -> Int -> Bool), k <= l /\ i = .int .i64 k /\ m = .bool b /\ GSt D p q1 q2 k1 k2 n h G B0 j k b0 b B W u0 u1 w
theorem GSt.went {D : Ix -> Nat} {p q1 q2 k1 k2 n : Nat} {h : Sh} {G : Gram} {B0 : Int -> Int -> Bool} {j k : Nat} {b0 b : Bool} {B : Int -> Int -> Bool} {W : World} {u0 u1 : Value} {w w' : World} (g : GSt D p q1 q2 k1 k2 n h G B0 j k b0 b B W u0 u1 w) (hb : Below w.heap.size w w') : GSt D p q1 q2 k1 k2 n h G B0 j k b0 b B W u0 u1 w' :=
 ⟨g.tr, g.ok, g.s.went hb, Rw.zB7 g.fr hb, g.box.went hb⟩
structure HSt (D : Ix -> Nat) (p q1 q2 k1 k2 n : Nat) (h : Sh) (G : Gram) (B : Int -> Int -> Bool) (x : Nat) (V : Nat -> Bool) (W : World) (u0 u1 : Value) (w : World) : Prop where
 s : RAt D p q1 q2 k1 k2 n h G (upd (tv (canB G) (fstB G) B no0) (.g x) V) w
 fr : Sep.Fr (Ds (Jn n) D) W w
 box : Bk W.heap.size #[u0, u1] 41 w
theorem HSt.went {D : Ix -> Nat} {p q1 q2 k1 k2 n : Nat} {h : Sh} {G : Gram} {B : Int -> Int -> Bool} {x : Nat} {V : Nat -> Bool} {W : World} {u0 u1 : Value} {w w' : World} (g : HSt D p q1 q2 k1 k2 n h G B x V W u0 u1 w) (hb : Below w.heap.size w w') : HSt D p q1 q2 k1 k2 n h G B x V W u0 u1 w' := ⟨g.s.went hb, Rw.zB7 g.fr hb, g.box.went hb⟩
theorem HSt.put {D : Ix -> Nat} {p q1 q2 k1 k2 n : Nat} {h : Sh} {G : Gram} {B : Int -> Int -> Bool} {x : Nat} {V U : Nat -> Bool} {W : World} {u0 u1 : Value} {w w' : World} (g : HSt D p q1 q2 k1 k2 n h G B x V W u0 u1 w) (hD : ¬ Ds (Jn n) D W.heap.size) (hx : x < n) (hs : BRow (D (.g x)) (G.terms.length + 1) U w') (hk : Keeps (D (.g x)) w w') : HSt D p q1 q2 k1 k2 n h G B x U W u0 u1 w' := by
 have hj : Jn n (.g x) := hx
 have := g.s.wrote hj (B := U) hs hk
 rw [zHt] at this
 exact ⟨this, g.fr.trans (zBZ hj hk) fun _ h => .inl h, g.box.fr (zBZ hj hk) hD⟩
theorem GSt.j {D : Ix -> Nat} {p q1 q2 k1 k2 n : Nat} {h : Sh} {G : Gram} {B0 : Int -> Int -> Bool} {j k : Nat} {b0 b : Bool} {B : Int -> Int -> Bool} {W : World} {u0 u1 : Value} {w : World} (g : GSt D p q1 q2 k1 k2 n h G B0 j k b0 b B W u0 u1 w) (x : Nat) : HSt D p q1 q2 k1 k2 n h G B x (rw' (B (x : Int))) W u0 u1 w :=
 ⟨by rw [show rw' (B (x : Int)) = tv (canB G) (fstB G) B no0 (.g x) from rfl, upd_same]; exact g.s, g.fr, g.box⟩
theorem HSt.gst {D : Ix -> Nat} {p q1 q2 k1 k2 n : Nat} {h : Sh} {G : Gram} {B0 : Int -> Int -> Bool} {j k k' : Nat} {b0 b : Bool} {B : Int -> Int -> Bool} {x : Nat} {V : Nat -> Bool} {W : World} {u0 u1 : Value} {w : World} {r : Int × List Int} (g : HSt D p q1 q2 k1 k2 n h G B x V W u0 u1 w)
  (hV : V = rw' (addB (canB G) (fstB G) B r k (x : Int) (x : Int))) (hT : TOk G.terms.length n (canB G) (fstB G) (addB (canB G) (fstB G) B r k (x : Int))) (hTr : TriedB G n (canB G) (fstB G) B0 j k' (addB (canB G) (fstB G) B r k (x : Int)) (b0 || b)) :
  GSt D p q1 q2 k1 k2 n h G B0 j k' b0 b (addB (canB G) (fstB G) B r k (x : Int)) W u0 u1 w :=
 ⟨hTr, hT, by have := g.s; rwa [tv_g hV fun y hy => zEj y hy] at this, g.fr, g.box⟩
theorem zRG {D : Ix -> Nat} {p q1 q2 k1 k2 n : Nat} {h : Sh} {G : Gram} {V : Ix -> Nat -> Bool} {w : World} (g : RAt D p q1 q2 k1 k2 n h G V w) : ¬ Ds (Jn n) D w.heap.size := fun ⟨k, hk, e⟩ => by
 have := (g.fam.at_ k hk).lt
 omega
def REnd (d m : Nat) (V U : Nat -> Bool) (w : World) (e : Ending) (w' : World) : Prop :=
 ∃ g, e = .returned (.bool g) /\ (g = true ↔ ∃ i : Nat, U i = true /\ V i = false) /\ BRow d m (fun i => V i || U i) w' /\ Keeps d w w'
theorem zLz {D : Ix -> Nat} {p q1 q2 k1 k2 n : Nat} {h : Sh} {G : Gram} {B : Int -> Int -> Bool} {V : Nat -> Bool} {s x : Nat} (w : World) (g : RAt D p q1 q2 k1 k2 n h G (upd (tv (canB G) (fstB G) B no0) (.g x) V) w) (hx : x < n) (hs : s < n) (hr : Rng (B (s : Int)) (G.terms.length + 1)) (he : s = x -> ∀ i : Nat, B (s : Int) (i : Int) = true -> V i = true) :
  Calls Tryz.prog 34 #[.slice (some ⟨D (.g x), 0, none⟩) (G.terms.length + 1) (G.terms.length + 1), .slice (some ⟨D (.g s), 0, none⟩) (G.terms.length + 1) (G.terms.length + 1)] w (REnd (D (.g x)) (G.terms.length + 1) V (rw' (B (s : Int))) w) := by
 have h4 := g.n4
 have htn := g.tn
 have hjx : Jn n (.g x) := hx
 have hjs : Jn n (.g s) := hs
 have ht := g.fam.at_ (.g x) hjx
 rw [zBD] at ht
 by_cases e : s = x
 ·subst e
  refine (zOK _ _ _ _ _ w ht (by show G.terms.length + 1 <= 10000; omega)).mono ?_
  rintro e w' ⟨rfl, rfl⟩
  have E : (fun i => V i || rw' (B (s : Int)) i) = V := by
   funext i
   unfold rw'
   cases k : B (s : Int) (i : Int) with
   | false => simp
   | true => rw [he rfl i k]; rfl
  refine ⟨false, rfl, ⟨(fun k => by cases k), fun ⟨i, k1, k2⟩ => ?_⟩, by rw [E]; exact ht, .refl _ _⟩
  rw [he rfl i k1] at k2
  cases k2
 ·have ho := g.fam.at_ (.g s) hjs
  rw [zAR _ _ (fun k => e (by injection k))] at ho
  refine (zAk _ _ (G.terms.length + 1) _ _ _ (rw' (B (s : Int))) w ht ho (fun e2 => e (by have := g.fam.inj _ _ hjx hjs e2; injection this with this; exact this.symm)) (fun i hi => by have := (hr _ hi).2; omega) (by show G.terms.length + 1 <= 10000; omega)).mono ?_
  rintro e w' ⟨b, rfl, hb, h1, h2⟩
  exact ⟨b, rfl, hb, h1, h2⟩
theorem zKF {D : Ix -> Nat} {p q1 q2 k1 k2 n : Nat} {h : Sh} {G : Gram} {B0 B : Int -> Int -> Bool} (W0 w : World) (kg : GAt h G W0) (hg : RAt D p q1 q2 k1 k2 n h G (tv (canB G) (fstB G) B no0) w) (hT : TOk G.terms.length n (canB G) (fstB G) B) (hb0 : Below W0.heap.size W0 w) (hD : ∀ k, Jn n k -> W0.heap.size <= D k)
  (hn : n = top G + 1) (j : Nat) (hj : j < G.rules.length) (b0 : Bool) (hTr : TriedB G n (canB G) (fstB G) B0 j 0 B b0) (s : Nat) (R : List Int) (hr : G.rules[j] = ((s : Int), R)) (hs : s < n) (a : Option Addr) (c : Nat) (hR : Sep.Reads a (ivs R) W0) (hL : LOk R c) :
  Calls Tryz.prog 35 #[.pointer (some ⟨p, 0, none⟩), .agg #[.int .i64 (s : Int), .slice a R.length c]] w (zSN D p q1 q2 k1 k2 n h G B0 j b0 w) := by
 obtain ⟨a1, c1, a2, c2, a3, c3⟩ := h
 have bx := boxed w (.cells #[.int .i64 (s : Int), .slice a R.length c] 41)
 have F0 := zSt (show GSt D p q1 q2 k1 k2 n ⟨a1, c1, a2, c2, a3, c3⟩ G B0 j 0 b0 false B w (.int .i64 (s : Int)) (.slice a R.length c) (w.alloc (.cells #[.int .i64 (s : Int), .slice a R.length c] 41)) from
  ⟨by rw [Bool.or_false]; exact hTr, hT, hg.went bx, Sep.Fr.of_below bx, Bk.new w _ _ _ rfl⟩)
 have h4 := hg.n4
 have DL := zSt (zRG hg)
 have RR := zSt (fun w1 (b : Below W0.heap.size W0 w1) => Sep.Reads.below hR b (Nat.le_refl _))
 have LO := zSt hL
 have BB := zSt (show ∀ w', Sep.Fr (Ds (Jn n) D) w w' -> Below W0.heap.size W0 w' from fun w' f => hb0.trans (f.below (fun b ⟨k, hk, e⟩ => e ▸ hD k hk) hb0.size))
 have hl := hL.len
 have hcap := hL.cap
 have NO := zSt (fun x w1 (b : Below W0.heap.size W0 w1) => zFo ⟨a1, c1, a2, c2, a3, c3⟩ G x w1 (kg.went b))
 have hrd : ∀ x, nonB G x = true -> 0 <= x /\ x < (n : Int) := fun x hx => by
  have := zAM.1 hx
  have e : top G = G.terms.length + G.nons.length := rfl
  omega
 have HRD := zSt hrd
 have HDW := zSt hD
 have RJ := zSt hr
 have HJ := zSt hj
 have hpw : p < w.heap.size := hg.box.lt
 have hq2w : q2 < w.heap.size := World.block_lt_of_cell? w ⟨q2, 0, none⟩ (hg.behind 0 (by have := hg.tn; omega))
 have HOF := zSt hg.off
 have HTN := zSt hg.tn
 have H0 := F0.out.box.two.2.1
 clear hg hT hb0 hD hn hTr hr hR hL bx kg hrd
 unfold gv at NO
 dsimp only at NO
 go_enter Tryz.func35, Tryz.ntmps35
 go_wp2
 clear H0
 go_loopw [5, 6] (fun m i wr => zSB D p q1 q2 k1 k2 n ⟨a1, c1, a2, c2, a3, c3⟩ G B0 j b0 w (.int .i64 (s : Int)) (.slice a R.length c) R.length m i wr) (fun _ i _ => R.length - (intOf i).toNat)
 case atStart => exact ⟨0, false, B, Nat.zero_le _, rfl, rfl, F0.out⟩
 case round =>
  clear F0
  obtain ⟨k, b, H, hk, rfl, rfl, hF⟩ := hrel
  have F := zSt hF
  clear hF
  obtain ⟨y0, y1, yf⟩ := F.out.box.two
  by_cases hlt : k < R.length
  ·obtain ⟨b2, o2, rfl, hc0⟩ := zBf (RR.out W0 (.refl _ _)) hlt
   have BF := zSt (BB.out _ F.out.fr)
   have hc := cell_later BF.out hc0
   have HC0 := zSt hc0
   clear hc0
   obtain ⟨x0, x1, x2, x3, x4, x5, x6⟩ := seven F.out.s.box
   try dsimp only at x0 x1 x2 x3
   have HQ := zSt (show ∀ w', Below wr.heap.size wr w' -> w'.cell? ⟨p, 0, none⟩ = some (.slice a1 G.terms.length c1) /\ w'.cell? ⟨p, 1, none⟩ = some (.slice a2 G.nons.length c2) /\ w'.cell? ⟨p, 2, none⟩ = some (.slice a3 G.rules.length c3) /\ w'.cell? ⟨p, 3, none⟩ = some (.int .i64 G.start) /\ w'.cell? ⟨w.heap.size, 1, none⟩ = some (.slice (some ⟨b2, o2, none⟩) R.length c) /\ w'.cell? ⟨b2, o2 + k, none⟩ = some (.int .i64 R[k]) /\ Below wr.heap.size wr w' from
    fun w' hb => ⟨cell_later hb x0, cell_later hb x1, cell_later hb x2, cell_later hb x3, cell_later hb y1, cell_later hb hc, hb⟩)
   have NC := zSt (fun w1 (b : Below wr.heap.size wr w1) => NO.out R[k] w1 (Gr.step BF.out b))
   have hbd := drawn wr
   have i0 : (0 : Int) <= (k : Int) := by omega
   have i1 : (k : Int) < (R.length : Int) := by omega
   cases hnn : nonB G R[k] with
   | false =>
    have SK := zSt (skip' F.out.tr HJ.out RJ.out fun _ => hnn)
    rw [hnn] at NC
    clear hnn
    generalize R[k] = x at *
    go_wp2
    clear x0 x1 x2 x3 x4 x5 x6 y0 y1 yf hc
    go_region_held3 (fun w' => w'.cell? ⟨p, 0, none⟩ = some (.slice a1 G.terms.length c1) /\ w'.cell? ⟨p, 1, none⟩ = some (.slice a2 G.nons.length c2) /\ w'.cell? ⟨p, 2, none⟩ = some (.slice a3 G.rules.length c3) /\ w'.cell? ⟨p, 3, none⟩ = some (.int .i64 G.start) /\ w'.cell? ⟨w.heap.size, 1, none⟩ = some (.slice (some ⟨b2, o2, none⟩) R.length c) /\ w'.cell? ⟨b2, o2 + k, none⟩ = some (.int .i64 x) /\ Below wr.heap.size wr w')
     (exact HQ.out _ (by assumption))
     (first
      | (go_at_call 37; refine (NC.out _ hbd).mono ?_; rintro e wn ⟨rfl, hb⟩; have l1 : Below wr.heap.size wr wn := Gr.step hbd hb; clear hb)
      | fail)
    have Fn := F.out.went l1
    have F2 := zSt (GSt.mk SK.out Fn.ok Fn.s Fn.fr Fn.box)
    clear Fn
    go_wp2
    go_roundw
    case rel => exact ⟨k + 1, b, H, by omega, by go_num, rfl, F2.out⟩
    case measure => simp [intOf]; omega
   | true =>
    obtain ⟨hx0, hx1⟩ := HRD.out _ hnn
    obtain ⟨xn, hxn⟩ : ∃ m : Nat, R[k] = (m : Int) := ⟨R[k].toNat, by omega⟩
    have hxr : xn < n := by omega
    have htx : (G.terms.length : Int) < (xn : Int) := by
     have := zAM.1 hnn
     omega
    have FN := zSt (zGT F.out.tr F.out.ok HJ.out RJ.out hlt hxn (by rw [← hxn]; exact hnn) (by omega) (by omega))
    have OK2 := zSt (zIj F.out.ok ((s : Int), R) k (x := (xn : Int)) htx (by omega))
    have HA := zSt (fun A cc (hA : BehA A cc b2 o2 k R.length c) w' (hb : Below W0.heap.size W0 w') => zEE (RR.out w' hb) hA)
    have BEC := zSt (fun A cc (hA : BehA A cc b2 o2 k R.length c) w' (hb : Below wr.heap.size wr w') => zF7 w' (F.out.s.went hb) F.out.ok (R.drop (k + 1)) A cc (HA.out A cc hA w' (Gr.step BF.out hb)) (zD7 LO.out hA))
    rw [List.length_drop] at BEC
    unfold zJt at BEC
    have RG := zSt (F.out.ok.b1 (s : Int))
    have LR := zSt (zBR (C := canB G) F.out.ok.f1 (R.drop (k + 1)))
    have A1 := zSt (show BehA (some ⟨b2, o2 + (k + 1), none⟩) (c - (k + 1)) b2 o2 k R.length c from .inl ⟨rfl, rfl⟩)
    have A2 := zSt (fun (h : c = k + 1) => show BehA (some ⟨b2, o2, none⟩) 0 b2 o2 k R.length c from .inr ⟨rfl, rfl, by omega⟩)
    rw [hnn] at NC
    clear hnn hx0 hx1
    generalize R[k] = x at *
    subst hxn
    go_wp2
    clear x0 x1 x2 x3 x4 x5 x6 y0 y1 yf hc
    go_region_held3 (fun w' => w'.cell? ⟨p, 0, none⟩ = some (.slice a1 G.terms.length c1) /\ w'.cell? ⟨p, 1, none⟩ = some (.slice a2 G.nons.length c2) /\ w'.cell? ⟨p, 2, none⟩ = some (.slice a3 G.rules.length c3) /\ w'.cell? ⟨p, 3, none⟩ = some (.int .i64 G.start) /\ w'.cell? ⟨w.heap.size, 1, none⟩ = some (.slice (some ⟨b2, o2, none⟩) R.length c) /\ w'.cell? ⟨b2, o2 + k, none⟩ = some (.int .i64 (xn : Int)) /\ Below wr.heap.size wr w')
     (exact HQ.out _ (by assumption))
     (first
      | (go_at_call 37; refine (NC.out _ hbd).mono ?_; rintro e wn ⟨rfl, hb⟩; have l1 : Below wr.heap.size wr wn := Gr.step hbd hb; clear hb)
      | fail)
    have Fn := zSt (F.out.went l1)
    obtain ⟨y0, y1, yf⟩ := Fn.out.box.two
    have BE1 := zSt (fun A cc hA => BEC.out A cc hA wn l1)
    have cn := cell_later (Gr.step BF.out l1) HC0.out
    have hDL : ∀ k, Jn n k -> D k < wn.heap.size := fun k hk => (Fn.out.s.fam.at_ k hk).lt
    have HDL := zSt hDL
    have hwn : w.heap.size < wn.heap.size := Fn.out.box.lt
    have BN := zSt (Gr.step BF.out l1)
    clear NC HQ hbd F l1 BEC hDL
    cases hall : allC (canB G) (R.drop (k + 1)) with
    | false =>
     have AR := zSt (zFz (F := fstB G) (B := H) (s := (s : Int)) (x := (xn : Int)) hall)
     have G0 := zSt (show (false = true ↔ allC (canB G) (R.drop (k + 1)) = true /\ ∃ i : Nat, H (s : Int) (i : Int) = true /\ (H (xn : Int) (i : Int) || zAP (canB G) (fstB G) (R.drop (k + 1)) (i : Int)) = false) from ⟨(fun h => by cases h), (fun h => by rw [hall] at h; cases h.1)⟩)
     rw [hall] at BE1
     clear hall
     go_wp2_with (go_at_call 33; (first | (with_reducible refine (BE1.out _ _ A1.out).mono ?_) | (with_reducible refine (BE1.out _ _ (A2.out (by omega))).mono ?_)); rintro e w8 ⟨dN, rfl, hr8, hd8, hb⟩; have F8 := zSt (Fn.out.went hb); have R8 := zSt hr8; have c8 := cell_later hb cn; have hz8 := hb.size; clear hr8 hb y0 y1 yf)
     ·have hcc : c = k + 1 := (by assumption)
      subst hcc
      obtain ⟨x0, x1, x2, x3, x4, x5, x6⟩ := seven F8.out.s.box
      obtain ⟨y0, y1, yf⟩ := F8.out.box.two
      have z8 := F8.out.s.behind xn hxr
      have hjx : Jn n (.g xn) := hxr
      have hdx : D (.g xn) < wn.heap.size := HDL.out _ hjx
      have ho := HOF.out _ hjx
      have ho1 := ho.1
      have ho2 := ho.2.2
      have hdw : D (.g xn) ≠ w.heap.size := fun e => DL.out ⟨_, hjx, e.symm⟩
      have hdb : D (.g xn) ≠ b2 := fun e => by
       have h1 := World.block_lt_of_cell? W0 ⟨b2, o2 + k, none⟩ HC0.out
       have h2 := HDW.out _ hjx
       have h3 : b2 < W0.heap.size := h1
       omega
      clear ho
      have hbd := drawn w8
      have hf0 : Sep.Fr (fun i => i = D (.g xn)) w8 w8.drew := (Sep.Fr.refl _ _).drew
      have HQ := zSt (show ∀ w', Sep.Fr (fun i => i = D (.g xn)) w8 w' -> w'.cell? ⟨p, 6, none⟩ = some (.slice (some ⟨q2, 0, none⟩) n k2) /\ w'.cell? ⟨w.heap.size, 0, none⟩ = some (.int .i64 (s : Int)) /\ w'.cell? ⟨w.heap.size, 1, none⟩ = some (.slice (some ⟨b2, o2, none⟩) R.length (k + 1)) /\ w'.cell? ⟨b2, o2 + k, none⟩ = some (.int .i64 (xn : Int)) /\ w'.cell? ⟨q2, xn, none⟩ = some (.slice (some ⟨D (.g xn), 0, none⟩) (G.terms.length + 1) (G.terms.length + 1)) /\ Sep.Fr (fun i => i = D (.g xn)) w8 w' from
       fun w' hF => ⟨hF.cell x6 (fun e => ho1 e.symm), hF.cell y0 (fun e => hdw e.symm), hF.cell y1 (fun e => hdw e.symm), hF.cell c8 (fun e => hdb e.symm), hF.cell z8 (fun e => ho2 e.symm), hF⟩)
      have PC := zSt (fun w1 (b : Below w8.heap.size w8 w1) => zAk (D (.g xn)) dN (G.terms.length + 1) (G.terms.length + 1) (G.terms.length + 1) (rw' (H (xn : Int))) (rw' (zAP (canB G) (fstB G) (R.drop (k + 1)))) w1 ((F8.out.s.went b).fam.at_ _ hjx) (R8.out.went b) (by omega) (fun i hi => by have := (LR.out _ hi).2; omega) (by have := HTN.out; omega))
      have j0 : (0 : Int) <= (xn : Int) := by omega
      have j1 : (xn : Int) < (n : Int) := by omega
      clear x0 x1 x2 x3 x4 x5 x6 y0 y1 yf z8 cn
      go_region_held3 (fun w' => w'.cell? ⟨p, 6, none⟩ = some (.slice (some ⟨q2, 0, none⟩) n k2) /\ w'.cell? ⟨w.heap.size, 0, none⟩ = some (.int .i64 (s : Int)) /\ w'.cell? ⟨w.heap.size, 1, none⟩ = some (.slice (some ⟨b2, o2, none⟩) R.length (k + 1)) /\ w'.cell? ⟨b2, o2 + k, none⟩ = some (.int .i64 (xn : Int)) /\ w'.cell? ⟨q2, xn, none⟩ = some (.slice (some ⟨D (.g xn), 0, none⟩) (G.terms.length + 1) (G.terms.length + 1)) /\ Sep.Fr (fun i => i = D (.g xn)) w8 w')
       (exact HQ.out _ (by assumption))
       (first
        | (go_at_call 34; (with_reducible refine (PC.out _ hbd).mono ?_); rintro e w9 ⟨b1, rfl, hg1, hr9, hk9⟩; have hF9 : Sep.Fr (fun i => i = D (.g xn)) w8 w9 := hf0.trans ⟨hk9.os, hk9.tape, hk9.output, hk9.size, fun i hi hb => hk9.block i hi hb⟩ (fun _ h => .inl h); have J9 := zSt (((F8.out.j xn).went hbd).put DL.out hxr hr9 hk9); have G1 := zSt hg1; clear hr9 hk9 hg1)
        | fail)
      have FE := zSt (fun m hm => J9.out.gst AR.out OK2.out (FN.out b1 false m G1.out G0.out hm))
      obtain ⟨x0, x1, x2, x3, x4, x5, x6⟩ := seven J9.out.s.box
      obtain ⟨y0, y1, yf⟩ := J9.out.box.two
      clear FN G1 HQ PC hF9
      cases b1
      ·go_wp2_with fail
       go_quiet (fail)
       have FE2 := zSt ((FE.out b (by simp)).went (zA1 _ nq))
       go_wp2
       go_roundw
       case rel => exact ⟨k + 1, b, _, by omega, by go_num, rfl, FE2.out⟩
       case measure => simp [intOf]; omega
      ·go_wp2_with fail
       go_quiet (fail)
       have FE2 := zSt ((FE.out true (by simp)).went (zA1 _ nq))
       go_wp2
       go_roundw
       case rel => exact ⟨k + 1, true, _, by omega, by go_num, rfl, FE2.out⟩
       case measure => simp [intOf]; omega
     ·obtain ⟨x0, x1, x2, x3, x4, x5, x6⟩ := seven F8.out.s.box
      obtain ⟨y0, y1, yf⟩ := F8.out.box.two
      have z8 := F8.out.s.behind xn hxr
      have hjx : Jn n (.g xn) := hxr
      have hdx : D (.g xn) < wn.heap.size := HDL.out _ hjx
      have ho := HOF.out _ hjx
      have ho1 := ho.1
      have ho2 := ho.2.2
      have hdw : D (.g xn) ≠ w.heap.size := fun e => DL.out ⟨_, hjx, e.symm⟩
      have hdb : D (.g xn) ≠ b2 := fun e => by
       have h1 := World.block_lt_of_cell? W0 ⟨b2, o2 + k, none⟩ HC0.out
       have h2 := HDW.out _ hjx
       have h3 : b2 < W0.heap.size := h1
       omega
      clear ho
      have hbd := drawn w8
      have hf0 : Sep.Fr (fun i => i = D (.g xn)) w8 w8.drew := (Sep.Fr.refl _ _).drew
      have HQ := zSt (show ∀ w', Sep.Fr (fun i => i = D (.g xn)) w8 w' -> w'.cell? ⟨p, 6, none⟩ = some (.slice (some ⟨q2, 0, none⟩) n k2) /\ w'.cell? ⟨w.heap.size, 0, none⟩ = some (.int .i64 (s : Int)) /\ w'.cell? ⟨w.heap.size, 1, none⟩ = some (.slice (some ⟨b2, o2, none⟩) R.length c) /\ w'.cell? ⟨b2, o2 + k, none⟩ = some (.int .i64 (xn : Int)) /\ w'.cell? ⟨q2, xn, none⟩ = some (.slice (some ⟨D (.g xn), 0, none⟩) (G.terms.length + 1) (G.terms.length + 1)) /\ Sep.Fr (fun i => i = D (.g xn)) w8 w' from
       fun w' hF => ⟨hF.cell x6 (fun e => ho1 e.symm), hF.cell y0 (fun e => hdw e.symm), hF.cell y1 (fun e => hdw e.symm), hF.cell c8 (fun e => hdb e.symm), hF.cell z8 (fun e => ho2 e.symm), hF⟩)
      have PC := zSt (fun w1 (b : Below w8.heap.size w8 w1) => zAk (D (.g xn)) dN (G.terms.length + 1) (G.terms.length + 1) (G.terms.length + 1) (rw' (H (xn : Int))) (rw' (zAP (canB G) (fstB G) (R.drop (k + 1)))) w1 ((F8.out.s.went b).fam.at_ _ hjx) (R8.out.went b) (by omega) (fun i hi => by have := (LR.out _ hi).2; omega) (by have := HTN.out; omega))
      have j0 : (0 : Int) <= (xn : Int) := by omega
      have j1 : (xn : Int) < (n : Int) := by omega
      clear x0 x1 x2 x3 x4 x5 x6 y0 y1 yf z8 cn
      go_region_held3 (fun w' => w'.cell? ⟨p, 6, none⟩ = some (.slice (some ⟨q2, 0, none⟩) n k2) /\ w'.cell? ⟨w.heap.size, 0, none⟩ = some (.int .i64 (s : Int)) /\ w'.cell? ⟨w.heap.size, 1, none⟩ = some (.slice (some ⟨b2, o2, none⟩) R.length c) /\ w'.cell? ⟨b2, o2 + k, none⟩ = some (.int .i64 (xn : Int)) /\ w'.cell? ⟨q2, xn, none⟩ = some (.slice (some ⟨D (.g xn), 0, none⟩) (G.terms.length + 1) (G.terms.length + 1)) /\ Sep.Fr (fun i => i = D (.g xn)) w8 w')
       (exact HQ.out _ (by assumption))
       (first
        | (go_at_call 34; (with_reducible refine (PC.out _ hbd).mono ?_); rintro e w9 ⟨b1, rfl, hg1, hr9, hk9⟩; have hF9 : Sep.Fr (fun i => i = D (.g xn)) w8 w9 := hf0.trans ⟨hk9.os, hk9.tape, hk9.output, hk9.size, fun i hi hb => hk9.block i hi hb⟩ (fun _ h => .inl h); have J9 := zSt (((F8.out.j xn).went hbd).put DL.out hxr hr9 hk9); have G1 := zSt hg1; clear hr9 hk9 hg1)
        | fail)
      have FE := zSt (fun m hm => J9.out.gst AR.out OK2.out (FN.out b1 false m G1.out G0.out hm))
      obtain ⟨x0, x1, x2, x3, x4, x5, x6⟩ := seven J9.out.s.box
      obtain ⟨y0, y1, yf⟩ := J9.out.box.two
      clear FN G1 HQ PC hF9
      cases b1
      ·go_wp2_with fail
       go_quiet (fail)
       have FE2 := zSt ((FE.out b (by simp)).went (zA1 _ nq))
       go_wp2
       go_roundw
       case rel => exact ⟨k + 1, b, _, by omega, by go_num, rfl, FE2.out⟩
       case measure => simp [intOf]; omega
      ·go_wp2_with fail
       go_quiet (fail)
       have FE2 := zSt ((FE.out true (by simp)).went (zA1 _ nq))
       go_wp2
       go_roundw
       case rel => exact ⟨k + 1, true, _, by omega, by go_num, rfl, FE2.out⟩
       case measure => simp [intOf]; omega
    | true =>
     have AR := zSt (zF0 (F := fstB G) (B := H) (s := (s : Int)) (x := (xn : Int)) hall)
     have G0 := zSt (fun g (h : g = true ↔ ∃ i : Nat, rw' (H (s : Int)) i = true /\ (H (xn : Int) (i : Int) || zAP (canB G) (fstB G) (R.drop (k + 1)) (i : Int)) = false) => show (g = true ↔ allC (canB G) (R.drop (k + 1)) = true /\ ∃ i : Nat, H (s : Int) (i : Int) = true /\ (H (xn : Int) (i : Int) || zAP (canB G) (fstB G) (R.drop (k + 1)) (i : Int)) = false) from h.trans ⟨(fun h => ⟨hall, h⟩), (fun h => h.2)⟩)
     have SE := zSt (show s = xn -> ∀ i : Nat, H (s : Int) (i : Int) = true -> (H (xn : Int) (i : Int) || zAP (canB G) (fstB G) (R.drop (k + 1)) (i : Int)) = true from fun e i hi => by subst e; rw [hi]; rfl)
     rw [hall] at BE1
     clear hall
     go_wp2_with (go_at_call 33; (first | (with_reducible refine (BE1.out _ _ A1.out).mono ?_) | (with_reducible refine (BE1.out _ _ (A2.out (by omega))).mono ?_)); rintro e w8 ⟨dN, rfl, hr8, hd8, hb⟩; have F8 := zSt (Fn.out.went hb); have R8 := zSt hr8; have c8 := cell_later hb cn; have hz8 := hb.size; clear hr8 hb y0 y1 yf)
     ·have hcc : c = k + 1 := (by assumption)
      subst hcc
      obtain ⟨x0, x1, x2, x3, x4, x5, x6⟩ := seven F8.out.s.box
      obtain ⟨y0, y1, yf⟩ := F8.out.box.two
      have z8 := F8.out.s.behind xn hxr
      have hjx : Jn n (.g xn) := hxr
      have hdx : D (.g xn) < wn.heap.size := HDL.out _ hjx
      have ho := HOF.out _ hjx
      have ho1 := ho.1
      have ho2 := ho.2.2
      have hdw : D (.g xn) ≠ w.heap.size := fun e => DL.out ⟨_, hjx, e.symm⟩
      have hdb : D (.g xn) ≠ b2 := fun e => by
       have h1 := World.block_lt_of_cell? W0 ⟨b2, o2 + k, none⟩ HC0.out
       have h2 := HDW.out _ hjx
       have h3 : b2 < W0.heap.size := h1
       omega
      clear ho
      have hbd := drawn w8
      have hf0 : Sep.Fr (fun i => i = D (.g xn)) w8 w8.drew := (Sep.Fr.refl _ _).drew
      have HQ := zSt (show ∀ w', Sep.Fr (fun i => i = D (.g xn)) w8 w' -> w'.cell? ⟨p, 6, none⟩ = some (.slice (some ⟨q2, 0, none⟩) n k2) /\ w'.cell? ⟨w.heap.size, 0, none⟩ = some (.int .i64 (s : Int)) /\ w'.cell? ⟨w.heap.size, 1, none⟩ = some (.slice (some ⟨b2, o2, none⟩) R.length (k + 1)) /\ w'.cell? ⟨b2, o2 + k, none⟩ = some (.int .i64 (xn : Int)) /\ w'.cell? ⟨q2, xn, none⟩ = some (.slice (some ⟨D (.g xn), 0, none⟩) (G.terms.length + 1) (G.terms.length + 1)) /\ Sep.Fr (fun i => i = D (.g xn)) w8 w' from
       fun w' hF => ⟨hF.cell x6 (fun e => ho1 e.symm), hF.cell y0 (fun e => hdw e.symm), hF.cell y1 (fun e => hdw e.symm), hF.cell c8 (fun e => hdb e.symm), hF.cell z8 (fun e => ho2 e.symm), hF⟩)
      have PC := zSt (fun w1 (b : Below w8.heap.size w8 w1) => zAk (D (.g xn)) dN (G.terms.length + 1) (G.terms.length + 1) (G.terms.length + 1) (rw' (H (xn : Int))) (rw' (zAP (canB G) (fstB G) (R.drop (k + 1)))) w1 ((F8.out.s.went b).fam.at_ _ hjx) (R8.out.went b) (by omega) (fun i hi => by have := (LR.out _ hi).2; omega) (by have := HTN.out; omega))
      have j0 : (0 : Int) <= (xn : Int) := by omega
      have j1 : (xn : Int) < (n : Int) := by omega
      clear x0 x1 x2 x3 x4 x5 x6 y0 y1 yf z8 cn
      go_region_held3 (fun w' => w'.cell? ⟨p, 6, none⟩ = some (.slice (some ⟨q2, 0, none⟩) n k2) /\ w'.cell? ⟨w.heap.size, 0, none⟩ = some (.int .i64 (s : Int)) /\ w'.cell? ⟨w.heap.size, 1, none⟩ = some (.slice (some ⟨b2, o2, none⟩) R.length (k + 1)) /\ w'.cell? ⟨b2, o2 + k, none⟩ = some (.int .i64 (xn : Int)) /\ w'.cell? ⟨q2, xn, none⟩ = some (.slice (some ⟨D (.g xn), 0, none⟩) (G.terms.length + 1) (G.terms.length + 1)) /\ Sep.Fr (fun i => i = D (.g xn)) w8 w')
       (exact HQ.out _ (by assumption))
       (first
        | (go_at_call 34; (with_reducible refine (PC.out _ hbd).mono ?_); rintro e w9 ⟨b1, rfl, hg1, hr9, hk9⟩; have hF9 : Sep.Fr (fun i => i = D (.g xn)) w8 w9 := hf0.trans ⟨hk9.os, hk9.tape, hk9.output, hk9.size, fun i hi hb => hk9.block i hi hb⟩ (fun _ h => .inl h); have J9 := zSt (((F8.out.j xn).went hbd).put DL.out hxr hr9 hk9); have G1 := zSt hg1; clear hr9 hk9 hg1)
        | fail)
      obtain ⟨x0, x1, x2, x3, x4, x5, x6⟩ := seven J9.out.s.box
      obtain ⟨y0, y1, yf⟩ := J9.out.box.two
      have z9 := J9.out.s.behind xn hxr
      have zs9 := J9.out.s.behind s hs
      have c9 := hF9.cell c8 (fun e => hdb e.symm)
      have hbd9 := drawn w9
      have hf9 : Sep.Fr (fun i => i = D (.g xn)) w9 w9.drew := (Sep.Fr.refl _ _).drew
      have HQ9 := zSt (show ∀ w', Sep.Fr (fun i => i = D (.g xn)) w9 w' -> w'.cell? ⟨p, 6, none⟩ = some (.slice (some ⟨q2, 0, none⟩) n k2) /\ w'.cell? ⟨w.heap.size, 0, none⟩ = some (.int .i64 (s : Int)) /\ w'.cell? ⟨w.heap.size, 1, none⟩ = some (.slice (some ⟨b2, o2, none⟩) R.length (k + 1)) /\ w'.cell? ⟨b2, o2 + k, none⟩ = some (.int .i64 (xn : Int)) /\ w'.cell? ⟨q2, xn, none⟩ = some (.slice (some ⟨D (.g xn), 0, none⟩) (G.terms.length + 1) (G.terms.length + 1)) /\ w'.cell? ⟨q2, s, none⟩ = some (.slice (some ⟨D (.g s), 0, none⟩) (G.terms.length + 1) (G.terms.length + 1)) /\ Sep.Fr (fun i => i = D (.g xn)) w9 w' from
       fun w' hF => ⟨hF.cell x6 (fun e => ho1 e.symm), hF.cell y0 (fun e => hdw e.symm), hF.cell y1 (fun e => hdw e.symm), hF.cell c9 (fun e => hdb e.symm), hF.cell z9 (fun e => ho2 e.symm), hF.cell zs9 (fun e => ho2 e.symm), hF⟩)
      have PR := zSt (fun w1 (b : Below w9.heap.size w9 w1) => zLz w1 (J9.out.s.went b) hxr hs RG.out SE.out)
      have FN1 := zSt (fun g h2 m hm => FN.out b1 g m G1.out h2 hm)
      have l0 : (0 : Int) <= (s : Int) := by omega
      have l1 : (s : Int) < (n : Int) := by omega
      clear FN G1 HQ PC hF9 hf0 hbd c8
      cases b1
      ·go_wp2
       clear x0 x1 x2 x3 x4 x5 x6 y0 y1 yf z9 zs9 c9
       go_region_held3 (fun w' => w'.cell? ⟨p, 6, none⟩ = some (.slice (some ⟨q2, 0, none⟩) n k2) /\ w'.cell? ⟨w.heap.size, 0, none⟩ = some (.int .i64 (s : Int)) /\ w'.cell? ⟨w.heap.size, 1, none⟩ = some (.slice (some ⟨b2, o2, none⟩) R.length (k + 1)) /\ w'.cell? ⟨b2, o2 + k, none⟩ = some (.int .i64 (xn : Int)) /\ w'.cell? ⟨q2, xn, none⟩ = some (.slice (some ⟨D (.g xn), 0, none⟩) (G.terms.length + 1) (G.terms.length + 1)) /\ w'.cell? ⟨q2, s, none⟩ = some (.slice (some ⟨D (.g s), 0, none⟩) (G.terms.length + 1) (G.terms.length + 1)) /\ Sep.Fr (fun i => i = D (.g xn)) w9 w')
        (exact HQ9.out _ (by assumption))
        (first
         | (go_at_call 34; (with_reducible refine (PR.out _ hbd9).mono ?_); rintro e w10 ⟨g, rfl, hg2, hr10, hk10⟩; have hF10 : Sep.Fr (fun i => i = D (.g xn)) w9 w10 := hf9.trans ⟨hk10.os, hk10.tape, hk10.output, hk10.size, fun i hi hb => hk10.block i hi hb⟩ (fun _ h => .inl h); have FE := zSt (fun m hm => ((J9.out.went hbd9).put DL.out hxr hr10 hk10).gst AR.out OK2.out (FN1.out g (G0.out g hg2) m hm)); clear hr10 hk10 hg2)
         | fail)
       cases g
       ·go_wp2
        go_roundw
        case rel => exact ⟨k + 1, b, _, by omega, by go_num, rfl, FE.out b (by simp)⟩
        case measure => simp [intOf]; omega
       ·go_wp2
        go_roundw
        case rel => exact ⟨k + 1, true, _, by omega, by go_num, rfl, FE.out true (by simp)⟩
        case measure => simp [intOf]; omega
      ·go_wp2
       clear x0 x1 x2 x3 x4 x5 x6 y0 y1 yf z9 zs9 c9
       go_region_held3 (fun w' => w'.cell? ⟨p, 6, none⟩ = some (.slice (some ⟨q2, 0, none⟩) n k2) /\ w'.cell? ⟨w.heap.size, 0, none⟩ = some (.int .i64 (s : Int)) /\ w'.cell? ⟨w.heap.size, 1, none⟩ = some (.slice (some ⟨b2, o2, none⟩) R.length (k + 1)) /\ w'.cell? ⟨b2, o2 + k, none⟩ = some (.int .i64 (xn : Int)) /\ w'.cell? ⟨q2, xn, none⟩ = some (.slice (some ⟨D (.g xn), 0, none⟩) (G.terms.length + 1) (G.terms.length + 1)) /\ w'.cell? ⟨q2, s, none⟩ = some (.slice (some ⟨D (.g s), 0, none⟩) (G.terms.length + 1) (G.terms.length + 1)) /\ Sep.Fr (fun i => i = D (.g xn)) w9 w')
        (exact HQ9.out _ (by assumption))
        (first
         | (go_at_call 34; (with_reducible refine (PR.out _ hbd9).mono ?_); rintro e w10 ⟨g, rfl, hg2, hr10, hk10⟩; have hF10 : Sep.Fr (fun i => i = D (.g xn)) w9 w10 := hf9.trans ⟨hk10.os, hk10.tape, hk10.output, hk10.size, fun i hi hb => hk10.block i hi hb⟩ (fun _ h => .inl h); have FE := zSt (fun m hm => ((J9.out.went hbd9).put DL.out hxr hr10 hk10).gst AR.out OK2.out (FN1.out g (G0.out g hg2) m hm)); clear hr10 hk10 hg2)
         | fail)
       cases g
       ·go_wp2
        go_roundw
        case rel => exact ⟨k + 1, true, _, by omega, by go_num, rfl, FE.out true (by simp)⟩
        case measure => simp [intOf]; omega
       ·go_wp2
        go_roundw
        case rel => exact ⟨k + 1, true, _, by omega, by go_num, rfl, FE.out true (by simp)⟩
        case measure => simp [intOf]; omega
     ·obtain ⟨x0, x1, x2, x3, x4, x5, x6⟩ := seven F8.out.s.box
      obtain ⟨y0, y1, yf⟩ := F8.out.box.two
      have z8 := F8.out.s.behind xn hxr
      have hjx : Jn n (.g xn) := hxr
      have hdx : D (.g xn) < wn.heap.size := HDL.out _ hjx
      have ho := HOF.out _ hjx
      have ho1 := ho.1
      have ho2 := ho.2.2
      have hdw : D (.g xn) ≠ w.heap.size := fun e => DL.out ⟨_, hjx, e.symm⟩
      have hdb : D (.g xn) ≠ b2 := fun e => by
       have h1 := World.block_lt_of_cell? W0 ⟨b2, o2 + k, none⟩ HC0.out
       have h2 := HDW.out _ hjx
       have h3 : b2 < W0.heap.size := h1
       omega
      clear ho
      have hbd := drawn w8
      have hf0 : Sep.Fr (fun i => i = D (.g xn)) w8 w8.drew := (Sep.Fr.refl _ _).drew
      have HQ := zSt (show ∀ w', Sep.Fr (fun i => i = D (.g xn)) w8 w' -> w'.cell? ⟨p, 6, none⟩ = some (.slice (some ⟨q2, 0, none⟩) n k2) /\ w'.cell? ⟨w.heap.size, 0, none⟩ = some (.int .i64 (s : Int)) /\ w'.cell? ⟨w.heap.size, 1, none⟩ = some (.slice (some ⟨b2, o2, none⟩) R.length c) /\ w'.cell? ⟨b2, o2 + k, none⟩ = some (.int .i64 (xn : Int)) /\ w'.cell? ⟨q2, xn, none⟩ = some (.slice (some ⟨D (.g xn), 0, none⟩) (G.terms.length + 1) (G.terms.length + 1)) /\ Sep.Fr (fun i => i = D (.g xn)) w8 w' from
       fun w' hF => ⟨hF.cell x6 (fun e => ho1 e.symm), hF.cell y0 (fun e => hdw e.symm), hF.cell y1 (fun e => hdw e.symm), hF.cell c8 (fun e => hdb e.symm), hF.cell z8 (fun e => ho2 e.symm), hF⟩)
      have PC := zSt (fun w1 (b : Below w8.heap.size w8 w1) => zAk (D (.g xn)) dN (G.terms.length + 1) (G.terms.length + 1) (G.terms.length + 1) (rw' (H (xn : Int))) (rw' (zAP (canB G) (fstB G) (R.drop (k + 1)))) w1 ((F8.out.s.went b).fam.at_ _ hjx) (R8.out.went b) (by omega) (fun i hi => by have := (LR.out _ hi).2; omega) (by have := HTN.out; omega))
      have j0 : (0 : Int) <= (xn : Int) := by omega
      have j1 : (xn : Int) < (n : Int) := by omega
      clear x0 x1 x2 x3 x4 x5 x6 y0 y1 yf z8 cn
      go_region_held3 (fun w' => w'.cell? ⟨p, 6, none⟩ = some (.slice (some ⟨q2, 0, none⟩) n k2) /\ w'.cell? ⟨w.heap.size, 0, none⟩ = some (.int .i64 (s : Int)) /\ w'.cell? ⟨w.heap.size, 1, none⟩ = some (.slice (some ⟨b2, o2, none⟩) R.length c) /\ w'.cell? ⟨b2, o2 + k, none⟩ = some (.int .i64 (xn : Int)) /\ w'.cell? ⟨q2, xn, none⟩ = some (.slice (some ⟨D (.g xn), 0, none⟩) (G.terms.length + 1) (G.terms.length + 1)) /\ Sep.Fr (fun i => i = D (.g xn)) w8 w')
       (exact HQ.out _ (by assumption))
       (first
        | (go_at_call 34; (with_reducible refine (PC.out _ hbd).mono ?_); rintro e w9 ⟨b1, rfl, hg1, hr9, hk9⟩; have hF9 : Sep.Fr (fun i => i = D (.g xn)) w8 w9 := hf0.trans ⟨hk9.os, hk9.tape, hk9.output, hk9.size, fun i hi hb => hk9.block i hi hb⟩ (fun _ h => .inl h); have J9 := zSt (((F8.out.j xn).went hbd).put DL.out hxr hr9 hk9); have G1 := zSt hg1; clear hr9 hk9 hg1)
        | fail)
      obtain ⟨x0, x1, x2, x3, x4, x5, x6⟩ := seven J9.out.s.box
      obtain ⟨y0, y1, yf⟩ := J9.out.box.two
      have z9 := J9.out.s.behind xn hxr
      have zs9 := J9.out.s.behind s hs
      have c9 := hF9.cell c8 (fun e => hdb e.symm)
      have hbd9 := drawn w9
      have hf9 : Sep.Fr (fun i => i = D (.g xn)) w9 w9.drew := (Sep.Fr.refl _ _).drew
      have HQ9 := zSt (show ∀ w', Sep.Fr (fun i => i = D (.g xn)) w9 w' -> w'.cell? ⟨p, 6, none⟩ = some (.slice (some ⟨q2, 0, none⟩) n k2) /\ w'.cell? ⟨w.heap.size, 0, none⟩ = some (.int .i64 (s : Int)) /\ w'.cell? ⟨w.heap.size, 1, none⟩ = some (.slice (some ⟨b2, o2, none⟩) R.length c) /\ w'.cell? ⟨b2, o2 + k, none⟩ = some (.int .i64 (xn : Int)) /\ w'.cell? ⟨q2, xn, none⟩ = some (.slice (some ⟨D (.g xn), 0, none⟩) (G.terms.length + 1) (G.terms.length + 1)) /\ w'.cell? ⟨q2, s, none⟩ = some (.slice (some ⟨D (.g s), 0, none⟩) (G.terms.length + 1) (G.terms.length + 1)) /\ Sep.Fr (fun i => i = D (.g xn)) w9 w' from
       fun w' hF => ⟨hF.cell x6 (fun e => ho1 e.symm), hF.cell y0 (fun e => hdw e.symm), hF.cell y1 (fun e => hdw e.symm), hF.cell c9 (fun e => hdb e.symm), hF.cell z9 (fun e => ho2 e.symm), hF.cell zs9 (fun e => ho2 e.symm), hF⟩)
      have PR := zSt (fun w1 (b : Below w9.heap.size w9 w1) => zLz w1 (J9.out.s.went b) hxr hs RG.out SE.out)
      have FN1 := zSt (fun g h2 m hm => FN.out b1 g m G1.out h2 hm)
      have l0 : (0 : Int) <= (s : Int) := by omega
      have l1 : (s : Int) < (n : Int) := by omega
      clear FN G1 HQ PC hF9 hf0 hbd c8
      cases b1
      ·go_wp2
       clear x0 x1 x2 x3 x4 x5 x6 y0 y1 yf z9 zs9 c9
       go_region_held3 (fun w' => w'.cell? ⟨p, 6, none⟩ = some (.slice (some ⟨q2, 0, none⟩) n k2) /\ w'.cell? ⟨w.heap.size, 0, none⟩ = some (.int .i64 (s : Int)) /\ w'.cell? ⟨w.heap.size, 1, none⟩ = some (.slice (some ⟨b2, o2, none⟩) R.length c) /\ w'.cell? ⟨b2, o2 + k, none⟩ = some (.int .i64 (xn : Int)) /\ w'.cell? ⟨q2, xn, none⟩ = some (.slice (some ⟨D (.g xn), 0, none⟩) (G.terms.length + 1) (G.terms.length + 1)) /\ w'.cell? ⟨q2, s, none⟩ = some (.slice (some ⟨D (.g s), 0, none⟩) (G.terms.length + 1) (G.terms.length + 1)) /\ Sep.Fr (fun i => i = D (.g xn)) w9 w')
        (exact HQ9.out _ (by assumption))
        (first
         | (go_at_call 34; (with_reducible refine (PR.out _ hbd9).mono ?_); rintro e w10 ⟨g, rfl, hg2, hr10, hk10⟩; have hF10 : Sep.Fr (fun i => i = D (.g xn)) w9 w10 := hf9.trans ⟨hk10.os, hk10.tape, hk10.output, hk10.size, fun i hi hb => hk10.block i hi hb⟩ (fun _ h => .inl h); have FE := zSt (fun m hm => ((J9.out.went hbd9).put DL.out hxr hr10 hk10).gst AR.out OK2.out (FN1.out g (G0.out g hg2) m hm)); clear hr10 hk10 hg2)
         | fail)
       cases g
       ·go_wp2
        go_roundw
        case rel => exact ⟨k + 1, b, _, by omega, by go_num, rfl, FE.out b (by simp)⟩
        case measure => simp [intOf]; omega
       ·go_wp2
        go_roundw
        case rel => exact ⟨k + 1, true, _, by omega, by go_num, rfl, FE.out true (by simp)⟩
        case measure => simp [intOf]; omega
      ·go_wp2
       clear x0 x1 x2 x3 x4 x5 x6 y0 y1 yf z9 zs9 c9
       go_region_held3 (fun w' => w'.cell? ⟨p, 6, none⟩ = some (.slice (some ⟨q2, 0, none⟩) n k2) /\ w'.cell? ⟨w.heap.size, 0, none⟩ = some (.int .i64 (s : Int)) /\ w'.cell? ⟨w.heap.size, 1, none⟩ = some (.slice (some ⟨b2, o2, none⟩) R.length c) /\ w'.cell? ⟨b2, o2 + k, none⟩ = some (.int .i64 (xn : Int)) /\ w'.cell? ⟨q2, xn, none⟩ = some (.slice (some ⟨D (.g xn), 0, none⟩) (G.terms.length + 1) (G.terms.length + 1)) /\ w'.cell? ⟨q2, s, none⟩ = some (.slice (some ⟨D (.g s), 0, none⟩) (G.terms.length + 1) (G.terms.length + 1)) /\ Sep.Fr (fun i => i = D (.g xn)) w9 w')
        (exact HQ9.out _ (by assumption))
        (first
         | (go_at_call 34; (with_reducible refine (PR.out _ hbd9).mono ?_); rintro e w10 ⟨g, rfl, hg2, hr10, hk10⟩; have hF10 : Sep.Fr (fun i => i = D (.g xn)) w9 w10 := hf9.trans ⟨hk10.os, hk10.tape, hk10.output, hk10.size, fun i hi hb => hk10.block i hi hb⟩ (fun _ h => .inl h); have FE := zSt (fun m hm => ((J9.out.went hbd9).put DL.out hxr hr10 hk10).gst AR.out OK2.out (FN1.out g (G0.out g hg2) m hm)); clear hr10 hk10 hg2)
         | fail)
       cases g
       ·go_wp2
        go_roundw
        case rel => exact ⟨k + 1, true, _, by omega, by go_num, rfl, FE.out true (by simp)⟩
        case measure => simp [intOf]; omega
       ·go_wp2
        go_roundw
        case rel => exact ⟨k + 1, true, _, by omega, by go_num, rfl, FE.out true (by simp)⟩
        case measure => simp [intOf]; omega
  ·have E := zSt (next' F.out.tr HJ.out RJ.out hlt)
   go_wp2
   go_ret
   exact ⟨b, H, rfl, E.out, F.out.ok, F.out.s, F.out.fr⟩
