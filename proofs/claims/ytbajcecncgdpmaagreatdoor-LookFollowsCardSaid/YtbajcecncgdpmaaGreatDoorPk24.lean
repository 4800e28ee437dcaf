/- A part of the proof. -/
import Derived.Test.YtbajcecncgdpmaaGreatDoorPk23
set_option maxHeartbeats 16000000
set_option maxRecDepth 100000
set_option linter.unusedVariables false
namespace Go.Proofs.YtbajcecncgdpmaaGreatDoor
namespace Fi
open Go.RowKit Go.Maps
open Gr (Gram nonB top zAM boxed ivs zBf)
open Bt (SetAt Keeps)
open Rw (Bk)
def BehA (a : Option Addr) (cc bb o k l c : Nat) : Prop := (a = some ⟨bb, o + (k + 1), none⟩ /\ cc = c - (k + 1)) \/ (a = some ⟨bb, o, none⟩ /\ cc = 0 /\ l <= k + 1)
theorem zEE {L : List Int} {a : Option Addr} {cc bb o k c : Nat} {w : World} (h : Sep.Reads (some ⟨bb, o, none⟩) (ivs L) w) (ha : BehA a cc bb o k L.length c) : Sep.Reads a (ivs (L.drop (k + 1))) w := by
 rcases ha with ⟨rfl, _⟩ | ⟨rfl, _, hl⟩
 ·exact zJW h (k + 1)
 ·rw [List.drop_of_length_le hl]
  exact .nil _ _
theorem zD7 {L : List Int} {a : Option Addr} {cc bb o k c : Nat} (h : LOk L c) (ha : BehA a cc bb o k L.length c) : LOk (L.drop (k + 1)) cc := by
 rcases ha with ⟨_, rfl⟩ | ⟨_, rfl, hl⟩
 ·exact h.drop (k + 1)
 ·rw [List.drop_of_length_le hl]
  exact ⟨(fun x hx => by cases hx), by simp, by simp⟩
theorem zGT {G : Gram} {n t : Nat} {B0 B : Int -> Int -> Bool} {j k : Nat} {b0 b : Bool} (h : TriedB G n (canB G) (fstB G) B0 j k B (b0 || b)) (hT : TOk t n (canB G) (fstB G) B) (hj : j < G.rules.length) {s : Int} {R : List Int} (hr : G.rules[j] = (s, R)) (hk : k < R.length) {x : Int} (hx : R[k] = x) (hn : nonB G x = true) (h0 : 0 <= x) (h1 : x < (n : Int)) :
  ∀ b1 g m : Bool, (b1 = true ↔ ∃ i : Nat, zAP (canB G) (fstB G) (R.drop (k + 1)) (i : Int) = true /\ B x (i : Int) = false) ->
   (g = true ↔ allC (canB G) (R.drop (k + 1)) = true /\ ∃ i : Nat, B s (i : Int) = true /\ (B x (i : Int) || zAP (canB G) (fstB G) (R.drop (k + 1)) (i : Int)) = false) -> m = (b || b1 || g) ->
   TriedB G n (canB G) (fstB G) B0 j (k + 1) (addB (canB G) (fstB G) B (s, R) k x) (b0 || m) := by
 intro b1 g m e1 e2 hm
 subst hx
 have e : R = G.rules[j].2 := by rw [hr]
 have es : s = G.rules[j].1 := by rw [hr]
 subst es
 subst e
 exact zNE h hT hj hk hn h0 h1 e1 e2 m hm
theorem skip' {G : Gram} {n : Nat} {B0 B : Int -> Int -> Bool} {j k : Nat} {b : Bool} (h : TriedB G n (canB G) (fstB G) B0 j k B b) (hj : j < G.rules.length) {s : Int} {R : List Int} (hr : G.rules[j] = (s, R)) (hs : ∀ hk : k < R.length, nonB G R[k] = false) : TriedB G n (canB G) (fstB G) B0 j (k + 1) B b := by
 have e : R = G.rules[j].2 := by rw [hr]
 subst e
 exact h.skip hj hs
theorem next' {G : Gram} {n : Nat} {B0 B : Int -> Int -> Bool} {j k : Nat} {b : Bool} (h : TriedB G n (canB G) (fstB G) B0 j k B b) (hj : j < G.rules.length) {s : Int} {R : List Int} (hr : G.rules[j] = (s, R)) (hk : ¬ k < R.length) : TriedB G n (canB G) (fstB G) B0 (j + 1) 0 B b := by
 have e : R = G.rules[j].2 := by rw [hr]
 subst e
 exact h.next hj hk
theorem zFz {C : Int -> Bool} {F B : Int -> Int -> Bool} {s x : Int} {R : List Int} {k : Nat} (ha : allC C (R.drop (k + 1)) = false) : (fun i : Nat => B x (i : Int) || zAP C F (R.drop (k + 1)) (i : Int)) = rw' (addB C F B (s, R) k x x) := by
 funext i
 unfold rw' addB behP
 dsimp only
 rw [ha]
 simp
theorem zF0 {C : Int -> Bool} {F B : Int -> Int -> Bool} {s x : Int} {R : List Int} {k : Nat} (ha : allC C (R.drop (k + 1)) = true) : (fun i : Nat => (B x (i : Int) || zAP C F (R.drop (k + 1)) (i : Int)) || rw' (B s) i) = rw' (addB C F B (s, R) k x x) := by
 funext i
 unfold rw' addB behP
 dsimp only
 rw [ha]
 simp [Bool.or_assoc]
theorem zEj {C : Int -> Bool} {F B : Int -> Int -> Bool} {r : Int × List Int} {k : Nat} {x : Int} (y : Int) (h : y ≠ x) : addB C F B r k x y = B y := by
 funext t
 unfold addB
 rw [decide_eq_false h]
 simp
theorem zRZ {C : Int -> Bool} {F : Int -> Int -> Bool} {Q : Int -> Bool} {L : List Int} : jn (rw' Q) F (L.take (zA9 C L)) = fun i : Nat => Q (i : Int) || zAP C F L (i : Int) := by
 funext i
 unfold jn rw'
 rw [zBP]
structure JSt (I : Ix -> Prop) (P D : Ix -> Nat) (p q1 q2 t n : Nat) (C : Int -> Bool) (F B : Int -> Int -> Bool) (O : Nat -> Bool) (x : Nat) (V : Nat -> Bool) (W : World) (u0 u1 : Value) (w : World) : Prop where
 s : SAt I P D p q1 q2 t n (upd (tv C F B O) (.g x) V) w
 fr : Sep.Fr (Ds I D) W w
 box : Bk W.heap.size #[u0, u1] 41 w
theorem JSt.went {I : Ix -> Prop} {P D : Ix -> Nat} {p q1 q2 t n : Nat} {C : Int -> Bool} {F B : Int -> Int -> Bool} {O : Nat -> Bool} {x : Nat} {V : Nat -> Bool} {W : World} {u0 u1 : Value} {w w' : World} (h : JSt I P D p q1 q2 t n C F B O x V W u0 u1 w) (hb : Below w.heap.size w w') : JSt I P D p q1 q2 t n C F B O x V W u0 u1 w' :=
 ⟨h.s.went hb, Rw.zB7 h.fr hb, h.box.went hb⟩
theorem JSt.put {I : Ix -> Prop} {P D : Ix -> Nat} {p q1 q2 t n : Nat} {C : Int -> Bool} {F B : Int -> Int -> Bool} {O : Nat -> Bool} {x : Nat} {V U : Nat -> Bool} {W : World} {u0 u1 : Value} {w w' : World} (h : JSt I P D p q1 q2 t n C F B O x V W u0 u1 w) (hD : ¬ Ds I D W.heap.size) (hx : t < x /\ x < n) (hs : SetAt (P (.g x)) (D (.g x)) (t + 1) U w') (hk : Keeps (D (.g x)) w w') : JSt I P D p q1 q2 t n C F B O x U W u0 u1 w' := by
 have hg := h.s.ig x hx.1 hx.2
 exact ⟨h.s.wrote2 hg rfl hs hk, h.fr.trans (zBZ hg hk) fun _ h => .inl h, h.box.fr (zBZ hg hk) hD⟩
theorem FSt.j {I : Ix -> Prop} {P D : Ix -> Nat} {p q1 q2 t n : Nat} {G : Gram} {B0 : Int -> Int -> Bool} {j k : Nat} {b0 b : Bool} {O : Nat -> Bool} {B : Int -> Int -> Bool} {W : World} {u0 u1 : Value} {w : World} (h : FSt I P D p q1 q2 t n G B0 j k b0 b O B W u0 u1 w) (x : Nat) :
  JSt I P D p q1 q2 t n (canB G) (fstB G) B O x (rw' (B (x : Int))) W u0 u1 w :=
 ⟨by rw [show rw' (B (x : Int)) = tv (canB G) (fstB G) B O (.g x) from rfl, upd_same]; exact h.s, h.fr, h.box⟩
theorem JSt.fst {I : Ix -> Prop} {P D : Ix -> Nat} {p q1 q2 t n : Nat} {G : Gram} {B0 : Int -> Int -> Bool} {j k k' : Nat} {b0 b : Bool} {O : Nat -> Bool} {B : Int -> Int -> Bool} {x : Nat} {V : Nat -> Bool} {W : World} {u0 u1 : Value} {w : World} {r : Int × List Int} (h : JSt I P D p q1 q2 t n (canB G) (fstB G) B O x V W u0 u1 w)
  (hV : V = rw' (addB (canB G) (fstB G) B r k (x : Int) (x : Int))) (hT : TOk t n (canB G) (fstB G) (addB (canB G) (fstB G) B r k (x : Int))) (hTr : TriedB G n (canB G) (fstB G) B0 j k' (addB (canB G) (fstB G) B r k (x : Int)) (b0 || b)) :
  FSt I P D p q1 q2 t n G B0 j k' b0 b O (addB (canB G) (fstB G) B r k (x : Int)) W u0 u1 w :=
 ⟨hTr, hT, by have := h.s; rwa [tv_g hV fun y hy => zEj y hy] at this, h.fr, h.box⟩
theorem zPM {I : Ix -> Prop} {P D : Ix -> Nat} {p q1 q2 t n : Nat} {G : Gram} {B0 B : Int -> Int -> Bool} {O : Nat -> Bool} (W0 w : World) (h : SAt I P D p q1 q2 t n (tv (canB G) (fstB G) B O) w) (hT : TOk t n (canB G) (fstB G) B) (hb0 : Below W0.heap.size W0 w) (hD : ∀ k, I k -> W0.heap.size <= D k)
  (ht : t = G.terms.length) (hn : n = top G + 1) (j : Nat) (hj : j < G.rules.length) (b0 : Bool) (hTr : TriedB G n (canB G) (fstB G) B0 j 0 B b0) (s : Nat) (R : List Int) (hr : G.rules[j] = ((s : Int), R)) (hs : t < s /\ s < n) (a : Option Addr) (c : Nat) (hR : Sep.Reads a (ivs R) W0) (hL : LOk R c) :
  Calls Tryz.prog 88 #[.pointer (some ⟨p, 0, none⟩), .agg #[.int .i64 (s : Int), .slice a R.length c]] w (AddB I P D p q1 q2 t n G B0 j b0 O w) := by
 have bx := boxed w (.cells #[.int .i64 (s : Int), .slice a R.length c] 41)
 have F0 := zSt (show FSt I P D p q1 q2 t n G B0 j 0 b0 false O B w (.int .i64 (s : Int)) (.slice a R.length c) (w.alloc (.cells #[.int .i64 (s : Int), .slice a R.length c] 41)) from
  ⟨by rw [Bool.or_false]; exact hTr, hT, h.went bx, Sep.Fr.of_below bx, Bk.new w _ _ _ rfl⟩)
 have h4 := h.n4
 have DL := zSt (zSU h)
 have RR := zSt (fun w1 (b : Below W0.heap.size W0 w1) => Sep.Reads.below hR b (Nat.le_refl _))
 have LO := zSt hL
 have BB := zSt (fun w' (f : Sep.Fr (Ds I D) w w') => zMs hb0 hD f)
 have HDD := zSt hD
 have hl := hL.len
 have hcap := hL.cap
 have NB := zSt (show ∀ x : Int, nonB G x = decide ((t : Int) < x /\ x < (n : Int)) from fun x => by
  have e : top G = G.terms.length + G.nons.length := rfl
  rw [Bool.eq_iff_iff, zAM, decide_eq_true_iff, ht, hn]
  omega)
 have RJ := zSt hr
 have HJ := zSt hj
 obtain ⟨hs1, hs2⟩ := hs
 have FO := zSt (fun T w1 (b : SAt I P D p q1 q2 t n T w1) x => zKf w1 b x)
 have GS := zSt (show gptr P t n (s : Int) = .pointer (some ⟨P (.g s), 0, none⟩) by unfold gptr; rw [if_pos (by omega)]; rfl)
 clear h hT hb0 hD ht hn hTr hr hR hL bx
 have h0 := F0.out.box.two.2.1
 go_enter Tryz.func88, Tryz.ntmps88
 go_wp2
 clear h0
 go_loopw [5, 14] (fun m i wr => zSA I P D p q1 q2 t n G B0 j b0 O w (.int .i64 (s : Int)) (.slice a R.length c) R.length m i wr) (fun _ i _ => R.length - (intOf i).toNat)
 case atStart => exact ⟨0, false, B, Nat.zero_le _, rfl, rfl, F0.out⟩
 case round =>
  clear F0
  obtain ⟨k, b, H, hk, rfl, rfl, hF⟩ := hrel
  have F := zSt hF
  clear hF
  by_cases hlt : k < R.length
  ·obtain ⟨bb, o, rfl, hc⟩ := zBf (RR.out _ (BB.out _ F.out.fr)) hlt
   obtain ⟨y0, y1, yf⟩ := F.out.box.two
   have FC := zSt (FO.out _ _ F.out.s R[k])
   by_cases hx : (t : Int) < R[k] /\ R[k] < (n : Int)
   ·obtain ⟨xn, hxn⟩ : ∃ m : Nat, R[k] = (m : Int) := ⟨R[k].toNat, by omega⟩
    have hxr : t < xn /\ xn < n := by omega
    have EU := zSt (show gptr P t n R[k] = .pointer (some ⟨P (.g xn), 0, none⟩) by unfold gptr; rw [if_pos hx, hxn]; rfl)
    have FN := zSt (zGT F.out.tr F.out.ok HJ.out RJ.out hlt hxn (by rw [NB.out, decide_eq_true_iff]; omega) (by omega) (by omega))
    have OK2 := zSt (zIj F.out.ok ((s : Int), R) k (x := (xn : Int)) (by omega) (by omega))
    have HA := zSt (fun A cc (hA : BehA A cc bb o k R.length c) w' (hb : Below W0.heap.size W0 w') => zEE (RR.out w' hb) hA)
    have HDC := zSt (fun A cc (hA : BehA A cc bb o k R.length c) w' (hS : SAt I P D p q1 q2 t n (tv (canB G) (fstB G) H O) w') (hb : Below W0.heap.size W0 w') => zCg w' hS F.out.ok.c (R.drop (k + 1)) A cc (HA.out A cc hA w' hb) (zD7 LO.out hA))
    have JOC := zSt (fun A cc (hA : BehA A cc bb o k R.length c) w' (hS : SAt I P D p q1 q2 t n (tv (canB G) (fstB G) H O) w') (hb : Below W0.heap.size W0 w') => zHO W0 w' hS F.out.ok (.g xn) (hS.ig xn hxr.1 hxr.2) rfl hb (HDD.out _ (hS.ig xn hxr.1 hxr.2)) ((R.drop (k + 1)).take (zA9 (canB G) (R.drop (k + 1)))) A cc (zCP (HA.out A cc hA W0 (.refl _ _)) _) ((zD7 LO.out hA).take _))
    rw [List.length_drop] at HDC
    rw [take_len, show tv (canB G) (fstB G) H O (.g xn) = rw' (H (xn : Int)) from rfl] at JOC
    unfold zJx at JOC
    rw [zRZ] at JOC
    have GL := zSt (fun b1 (h : Gn (rw' (H (xn : Int))) (fstB G) ((R.drop (k + 1)).take (zA9 (canB G) (R.drop (k + 1)))) b1) => zKm h)
    have RG := zSt (F.out.ok.b1 (s : Int))
    unfold zCb at HDC
    have BW := zSt (show ∀ w', Sep.Fr (Ds I D) w w' -> Below W0.heap.size W0 w' from BB.out)
    rw [EU.out] at FC
    have A1 := zSt (show BehA (some ⟨bb, o + (k + 1), none⟩) (c - (k + 1)) bb o k R.length c from .inl ⟨rfl, rfl⟩)
    have A2 := zSt (fun (h : c = k + 1) => show BehA (some ⟨bb, o, none⟩) 0 bb o k R.length c from .inr ⟨rfl, rfl, by omega⟩)
    clear EU hx
    generalize R[k] = x at *
    subst hxn
    cases hall : allC (canB G) (R.drop (k + 1)) with
    | false =>
     have AR := zSt (zFz (F := fstB G) (B := H) (s := (s : Int)) (x := (xn : Int)) hall)
     have G0 := zSt (show (false = true ↔ allC (canB G) (R.drop (k + 1)) = true /\ ∃ i : Nat, H (s : Int) (i : Int) = true /\ (H (xn : Int) (i : Int) || zAP (canB G) (fstB G) (R.drop (k + 1)) (i : Int)) = false) from ⟨(fun h => by cases h), (fun h => by rw [hall] at h; cases h.1)⟩)
     rw [hall] at HDC
     clear hall
     go_wp2_with (first
      | (go_at_call 120; refine FC.out.mono ?_; rintro e w1 ⟨rfl, hb⟩; have F1 := zSt (F.out.went hb); clear y0 y1 yf; obtain ⟨y0, y1, yf⟩ := F1.out.box.two; clear hb)
      | (go_at_call 117; (first | (with_reducible refine (HDC.out _ _ A1.out _ F1.out.s (BW.out _ F1.out.fr)).mono ?_) | (with_reducible refine (HDC.out _ _ (A2.out (by omega)) _ F1.out.s (BW.out _ F1.out.fr)).mono ?_)); rintro e w2 ⟨rfl, hb⟩; have F2 := zSt (F1.out.went hb); clear hb y0 y1 yf))
     all_goals (first | (with_reducible refine (JOC.out _ _ A1.out _ F2.out.s (BW.out _ F2.out.fr)).mono ?_) | (with_reducible refine (JOC.out _ _ (A2.out (by omega)) _ F2.out.s (BW.out _ F2.out.fr)).mono ?_))
     all_goals try (have hcc : c = k + 1 := (by assumption); subst hcc)
     all_goals
      rintro e w3 ⟨b1, rfl, hg, hs3, hk3⟩
      have J3 := zSt ((F2.out.j xn).put DL.out hxr hs3 hk3)
      have G1 := zSt (GL.out b1 hg)
      have FE := zSt (fun m hm => J3.out.fst AR.out OK2.out (FN.out b1 false m G1.out G0.out hm))
      clear hg hs3 hk3
      cases b1
      ·go_wp2
       go_roundw
       case rel => exact ⟨k + 1, b, _, by omega, by go_num, rfl, FE.out b (by simp)⟩
       case measure => simp [intOf]; omega
      ·go_wp2
       go_roundw
       case rel => exact ⟨k + 1, true, _, by omega, by go_num, rfl, FE.out true (by simp)⟩
       case measure => simp [intOf]; omega
    | true =>
     have AR := zSt (zF0 (F := fstB G) (B := H) (s := (s : Int)) (x := (xn : Int)) hall)
     have G0 := zSt (fun g (h : g = true ↔ ∃ i : Nat, rw' (H (s : Int)) i = true /\ (H (xn : Int) (i : Int) || zAP (canB G) (fstB G) (R.drop (k + 1)) (i : Int)) = false) => show (g = true ↔ allC (canB G) (R.drop (k + 1)) = true /\ ∃ i : Nat, H (s : Int) (i : Int) = true /\ (H (xn : Int) (i : Int) || zAP (canB G) (fstB G) (R.drop (k + 1)) (i : Int)) = false) from h.trans ⟨(fun h => ⟨hall, h⟩), (fun h => h.2)⟩)
     have SE := zSt (show s = xn -> ∀ i : Nat, H (s : Int) (i : Int) = true -> (H (xn : Int) (i : Int) || zAP (canB G) (fstB G) (R.drop (k + 1)) (i : Int)) = true from fun e i hi => by subst e; rw [hi]; rfl)
     rw [hall] at HDC
     clear hall
     go_wp2_with (first
      | (go_at_call 120; refine FC.out.mono ?_; rintro e w1 ⟨rfl, hb⟩; have F1 := zSt (F.out.went hb); clear y0 y1 yf; obtain ⟨y0, y1, yf⟩ := F1.out.box.two; clear hb)
      | (go_at_call 117; (first | (with_reducible refine (HDC.out _ _ A1.out _ F1.out.s (BW.out _ F1.out.fr)).mono ?_) | (with_reducible refine (HDC.out _ _ (A2.out (by omega)) _ F1.out.s (BW.out _ F1.out.fr)).mono ?_)); rintro e w2 ⟨rfl, hb⟩; have F2 := zSt (F1.out.went hb); clear hb y0 y1 yf))
     all_goals (first | (with_reducible refine (JOC.out _ _ A1.out _ F2.out.s (BW.out _ F2.out.fr)).mono ?_) | (with_reducible refine (JOC.out _ _ (A2.out (by omega)) _ F2.out.s (BW.out _ F2.out.fr)).mono ?_))
     all_goals try (have hcc : c = k + 1 := (by assumption); subst hcc)
     all_goals
      rintro e w3 ⟨b1, rfl, hg, hs3, hk3⟩
      have J3 := zSt ((F2.out.j xn).put DL.out hxr hs3 hk3)
      have G1 := zSt (GL.out b1 hg)
      have FC2 := zSt (FO.out _ _ J3.out.s (s : Int))
      rw [GS.out] at FC2
      have FN1 := zSt (fun g h2 m hm => FN.out b1 g m G1.out h2 hm)
      have OC2 := zSt (fun w' (hJ : SAt I P D p q1 q2 t n (upd (tv (canB G) (fstB G) H O) (.g xn) (fun i : Nat => H (xn : Int) (i : Int) || zAP (canB G) (fstB G) (R.drop (k + 1)) (i : Int))) w') => zRn w' hJ hxr ⟨hs1, hs2⟩ RG.out SE.out)
      obtain ⟨y0, y1, yf⟩ := J3.out.box.two
      clear hg hs3 hk3 FN G1
      cases b1
      ·go_wp2_with (go_at_call 120; refine FC2.out.mono ?_; rintro e w4 ⟨rfl, hb⟩; have J4 := zSt (J3.out.went hb); clear hb y0 y1 yf)
       refine (OC2.out _ J4.out.s).mono ?_
       rintro e w5 ⟨g, rfl, hg, hs5, hk5⟩
       have FE := zSt (fun m hm => (J4.out.put DL.out hxr hs5 hk5).fst AR.out OK2.out (FN1.out g (G0.out g hg) m hm))
       clear hg hs5 hk5
       cases g
       ·go_wp2
        go_roundw
        case rel => exact ⟨k + 1, b, _, by omega, by go_num, rfl, FE.out b (by simp)⟩
        case measure => simp [intOf]; omega
       ·go_wp2
        go_roundw
        case rel => exact ⟨k + 1, true, _, by omega, by go_num, rfl, FE.out true (by simp)⟩
        case measure => simp [intOf]; omega
      ·go_wp2_with (go_at_call 120; refine FC2.out.mono ?_; rintro e w4 ⟨rfl, hb⟩; have J4 := zSt (J3.out.went hb); clear hb y0 y1 yf)
       refine (OC2.out _ J4.out.s).mono ?_
       rintro e w5 ⟨g, rfl, hg, hs5, hk5⟩
       have FE := zSt (fun m hm => (J4.out.put DL.out hxr hs5 hk5).fst AR.out OK2.out (FN1.out g (G0.out g hg) m hm))
       clear hg hs5 hk5
       cases g
       ·go_wp2
        go_roundw
        case rel => exact ⟨k + 1, true, _, by omega, by go_num, rfl, FE.out true (by simp)⟩
        case measure => simp [intOf]; omega
       ·go_wp2
        go_roundw
        case rel => exact ⟨k + 1, true, _, by omega, by go_num, rfl, FE.out true (by simp)⟩
        case measure => simp [intOf]; omega
   ·have EU := zSt (show gptr P t n R[k] = .pointer none by unfold gptr; rw [if_neg hx])
    have SK := zSt (skip' F.out.tr HJ.out RJ.out fun _ => by rw [NB.out, decide_eq_false_iff_not]; exact hx)
    have HA := zSt (fun A cc (hA : BehA A cc bb o k R.length c) w' (hb : Below W0.heap.size W0 w') => zEE (RR.out w' hb) hA)
    have HDC := zSt (fun A cc (hA : BehA A cc bb o k R.length c) w' (hS : SAt I P D p q1 q2 t n (tv (canB G) (fstB G) H O) w') (hb : Below W0.heap.size W0 w') => zCg w' hS F.out.ok.c (R.drop (k + 1)) A cc (HA.out A cc hA w' hb) (zD7 LO.out hA))
    have JOC := zSt (fun A cc (hA : BehA A cc bb o k R.length c) w' (hS : SAt I P D p q1 q2 t n (tv (canB G) (fstB G) H O) w') (hb : Below W0.heap.size W0 w') => zK9 w' hS ((R.drop (k + 1)).take (zA9 (canB G) (R.drop (k + 1)))) A cc (zCP (HA.out A cc hA w' hb) _) ((zD7 LO.out hA).take _))
    rw [List.length_drop] at HDC
    rw [take_len] at JOC
    unfold zCb at HDC
    have BW := zSt (show ∀ w', Sep.Fr (Ds I D) w w' -> Below W0.heap.size W0 w' from BB.out)
    rw [EU.out] at FC
    have A1 := zSt (show BehA (some ⟨bb, o + (k + 1), none⟩) (c - (k + 1)) bb o k R.length c from .inl ⟨rfl, rfl⟩)
    have A2 := zSt (fun (h : c = k + 1) => show BehA (some ⟨bb, o, none⟩) 0 bb o k R.length c from .inr ⟨rfl, rfl, by omega⟩)
    have ON := zSt (fun u w' => Bt.zPD (u := u) w')
    clear EU hx
    generalize R[k] = x at *
    generalize allC (canB G) (R.drop (k + 1)) = al at *
    cases al with
    | false =>
     go_wp2_with (first
      | (go_at_call 120; refine FC.out.mono ?_; rintro e w1 ⟨rfl, hb⟩; have F1 := zSt (F.out.went hb); clear y0 y1 yf; obtain ⟨y0, y1, yf⟩ := F1.out.box.two; clear hb)
      | (go_at_call 117; (first | (with_reducible refine (HDC.out _ _ A1.out _ F1.out.s (BW.out _ F1.out.fr)).mono ?_) | (with_reducible refine (HDC.out _ _ (A2.out (by omega)) _ F1.out.s (BW.out _ F1.out.fr)).mono ?_)); rintro e w2 ⟨rfl, hb⟩; have F2 := zSt (F1.out.went hb); clear hb y0 y1 yf)
      | (go_at_call 118; (first | (with_reducible refine (JOC.out _ _ A1.out _ F2.out.s (BW.out _ F2.out.fr)).mono ?_) | (with_reducible refine (JOC.out _ _ (A2.out (by omega)) _ F2.out.s (BW.out _ F2.out.fr)).mono ?_)); rintro e w3 ⟨rfl, hb⟩; have F3 := zSt (F2.out.went hb); clear hb))
     all_goals try (have hcc : c = k + 1 := (by assumption); subst hcc)
     all_goals
      have F4 := zSt (FSt.mk SK.out F3.out.ok F3.out.s F3.out.fr F3.out.box)
      go_roundw
      case rel => exact ⟨k + 1, b, H, by omega, by go_num, rfl, F4.out⟩
      case measure => simp [intOf]; omega
    | true =>
     go_wp2_with (first
      | (go_at_call 120; (with_reducible refine FC.out.mono ?_); rintro e w1 ⟨rfl, hb⟩; have F1 := zSt (F.out.went hb); clear y0 y1 yf; obtain ⟨y0, y1, yf⟩ := F1.out.box.two; clear hb)
      | (go_at_call 117; (first | (with_reducible refine (HDC.out _ _ A1.out _ F1.out.s (BW.out _ F1.out.fr)).mono ?_) | (with_reducible refine (HDC.out _ _ (A2.out (by omega)) _ F1.out.s (BW.out _ F1.out.fr)).mono ?_)); rintro e w2 ⟨rfl, hb⟩; have F2 := zSt (F1.out.went hb); clear hb y0 y1 yf)
      | (go_at_call 118; (first | (with_reducible refine (JOC.out _ _ A1.out _ F2.out.s (BW.out _ F2.out.fr)).mono ?_) | (with_reducible refine (JOC.out _ _ (A2.out (by omega)) _ F2.out.s (BW.out _ F2.out.fr)).mono ?_)); rintro e w3 ⟨rfl, hb⟩; have F3 := zSt (F2.out.went hb); obtain ⟨y0, y1, yf⟩ := F3.out.box.two; have FC2 := zSt (FO.out _ _ F3.out.s (s : Int)); clear hb FC)
      | (go_at_call 120; (with_reducible refine FC2.out.mono ?_); rintro e w4 ⟨rfl, hb⟩; have F5 := zSt (F3.out.went hb); clear hb y0 y1 yf)
      | (go_at_call 92; refine (ON.out _ _).mono ?_; rintro e w5 ⟨rfl, rfl⟩))
     all_goals try (have hcc : c = k + 1 := (by assumption); subst hcc)
     all_goals
      have F4 := zSt (FSt.mk SK.out F5.out.ok F5.out.s F5.out.fr F5.out.box)
      go_roundw
      case rel => exact ⟨k + 1, b, H, by omega, by go_num, rfl, F4.out⟩
      case measure => simp [intOf]; omega
  ·have E := zSt (next' F.out.tr HJ.out RJ.out hlt)
   go_wp2
   go_ret
   exact ⟨b, H, rfl, E.out, F.out.ok, F.out.s, F.out.fr⟩
