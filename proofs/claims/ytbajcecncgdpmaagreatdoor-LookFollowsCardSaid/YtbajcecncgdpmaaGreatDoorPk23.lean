/- A part of the proof. -/
import Derived.Test.YtbajcecncgdpmaaGreatDoorPk22
import Derived.Test.YtbajcecncgdpmaaGreatDoorPk06
set_option maxHeartbeats 8000000
set_option maxRecDepth 100000
set_option linter.unusedVariables false
namespace Go.Proofs.YtbajcecncgdpmaaGreatDoor
open Go.RowKit Go.Maps
namespace Fi
open Gr (step ivs zBf)
structure LOk (L : List Int) (c : Nat) : Prop where
 fit : ∀ x ∈ L, x <= 9223372036854775807
 len : L.length <= 17592186044416
 cap : L.length <= c
theorem LOk.at {L : List Int} {c : Nat} (h : LOk L c) {k : Nat} (hk : k < L.length) : L[k] <= 9223372036854775807 := h.fit _ (List.getElem_mem hk)
def zCb (C : Int -> Bool) (L : List Int) (a : Option Addr) (c : Nat) (w : World) (e : Ending) (w' : World) : Prop :=
 e = .returned (.tuple #[.slice a (zA9 C L) c, .bool (allC C L)]) /\ Below w.heap.size w w'
def zSC (C : Int -> Bool) (L : List Int) (W : World) (i : Value) (w : World) : Prop :=
 ∃ k : Nat, k <= L.length /\ i = .int .i64 k /\ (∀ j (h : j < L.length), j < k -> C L[j] = true) /\ Below W.heap.size W w
theorem zCg {I : Ix -> Prop} {P D : Ix -> Nat} {p q1 q2 t n : Nat} {C : Int -> Bool} {F B : Int -> Int -> Bool} {O : Nat -> Bool} (w : World) (h : SAt I P D p q1 q2 t n (tv C F B O) w) (hC : Rng C n) (L : List Int) (a : Option Addr) (c : Nat) (hR : Sep.Reads a (ivs L) w) (hL : LOk L c) :
  Calls Tryz.prog 117 #[.pointer (some ⟨p, 0, none⟩), .slice a L.length c] w (zCb C L a c w) := by
 have EM := zSt (fun x hx w1 (b : Below w.heap.size w w1) => zM8 w1 (h.went b) hC x hx)
 have RR := zSt (fun w1 (b : Below w.heap.size w w1) => Sep.Reads.below hR b (Nat.le_refl _))
 have LO := zSt hL
 have hl := hL.len
 have hcap := hL.cap
 clear h hR hL hC
 go_enter Tryz.func117, Tryz.ntmps117
 go_wp2
 go_loopw [10] (fun i wr => zSC C L w i wr) (fun i _ => L.length - (intOf i).toNat)
 case atStart => exact ⟨0, Nat.zero_le _, rfl, (fun j _ hj => absurd hj (by omega)), .refl _ _⟩
 case round =>
  obtain ⟨k, hk, rfl, hP, hb⟩ := hrel
  have B := zSt hb
  have PP := zSt hP
  clear hb hP
  by_cases hlt : k < L.length
  ·obtain ⟨b, o, rfl, hc⟩ := zBf (RR.out _ B.out) hlt
   have E1 := zSt (EM.out L[k] (LO.out.at hlt) _ B.out)
   cases hz : C L[k] with
   | true =>
    have P2 := zSt (show ∀ j (h : j < L.length), j < k + 1 -> C L[j] = true from fun j h hj => by
     by_cases e : j = k
     ·subst e
      exact hz
     ·exact PP.out j h (by omega))
    rw [hz] at E1
    clear hz
    generalize L[k] = s at *
    go_wp2_with (go_at_call 151; refine E1.out.mono ?_; rintro e w1 ⟨rfl, hb⟩; have B1 := zSt (Gr.step B.out hb); clear hb)
    go_roundw
    case rel => exact ⟨k + 1, by omega, by go_num, P2.out, B1.out⟩
    case measure => simp [intOf]; omega
   | false =>
    obtain ⟨h1, h2⟩ := zD0 hlt PP.out hz
    have H1 := zSt h1
    have H2 := zSt h2
    rw [hz] at E1
    clear hz h1 h2
    generalize L[k] = s at *
    go_wp2_with (go_at_call 151; refine E1.out.mono ?_; rintro e w1 ⟨rfl, hb⟩; have B1 := zSt (Gr.step B.out hb); clear hb)
    go_ret2
    refine ⟨?_, B1.out⟩
    rw [H1.out, H2.out]
    first | rfl | (congr 1; omega)
  ·obtain ⟨h1, h2⟩ := zDz (C := C) (l := L) fun j hj => PP.out j hj (by omega)
   have H1 := zSt h1
   have H2 := zSt h2
   clear h1 h2
   go_wp2
   go_ret2
   refine ⟨?_, B.out⟩
   rw [H1.out, H2.out]
   rfl
end Fi
namespace Fi
open Gr (Is step ivs zBf)
open Bt (SetAt Keeps OtherV gains)
theorem zFb {d : Nat} {w w' : World} (h : Below w.heap.size w w') : Keeps d w w' := ⟨h.os, h.tape, h.output, h.size, fun k hk _ => h.block k hk⟩
theorem zCd {W0 w w' : World} {d : Nat} (h : Below W0.heap.size W0 w) (hd : W0.heap.size <= d) (k : Keeps d w w') : Below W0.heap.size W0 w' := h.trans (k.below hd h.size)
def zJx (p d m : Nat) (V : Nat -> Bool) (F : Int -> Int -> Bool) (X : List Int) (w : World) (e : Ending) (w' : World) : Prop :=
 ∃ b, e = .returned (.bool b) /\ Gn V F X b /\ SetAt p d m (jn V F X) w' /\ Keeps d w w'
def zSD (I : Ix -> Prop) (P D : Ix -> Nat) (p q1 q2 t n : Nat) (T : Ix -> Nat -> Bool) (F : Int -> Int -> Bool) (k : Ix) (X : List Int) (W : World) (m i : Value) (w : World) : Prop :=
 ∃ (j : Nat) (b : Bool), j <= X.length /\ i = .int .i64 j /\ m = .bool b /\ Gn (T k) F (X.take j) b /\ SAt I P D p q1 q2 t n (upd T k (jn (T k) F (X.take j))) w /\ Keeps (D k) W w
theorem zC8 {X : List Int} {j : Nat} (h : j < X.length) : X.take (j + 1) = X.take j ++ [X[j]] := by rw [List.take_succ_eq_append_getElem h]
theorem zQe {F : Int -> Int -> Bool} {n : Nat} (h2 : ∀ x i, F x i = true -> 0 <= x /\ x < (n : Int)) {y : Int} (hy : ¬ (0 <= y /\ y < (n : Int))) : rw' (F y) = fun _ => false := by
 funext i
 unfold rw'
 cases e : F y (i : Int) with
 | false => rfl
 | true => exact absurd (h2 _ _ e) hy
theorem SAt.otherV {I : Ix -> Prop} {P D : Ix -> Nat} {p q1 q2 t n : Nat} {C : Int -> Bool} {F B : Int -> Int -> Bool} {O V : Nat -> Bool} {k : Ix} {w : World} (h : SAt I P D p q1 q2 t n (upd (tv C F B O) k V) w) (hk : I k) (h2 : ∀ x i, F x i = true -> 0 <= x /\ x < (n : Int)) (y : Int) (hne : 0 <= y -> y < (n : Int) -> k ≠ .f y.toNat) :
  ∃ m, OtherV (D k) (fptr P n y) m (rw' (F y)) w := by
 unfold fptr
 by_cases hy : 0 <= y /\ y < (n : Int)
 ·rw [if_pos hy]
  replace hne := hne hy.1 hy.2
  have := h.fam.other hk (h.if_ y.toNat (by omega)) (fun e => hne e.symm)
  rw [zAR _ _ (fun e => hne e.symm)] at this
  refine ⟨t + 1, ?_⟩
  have e : ((y.toNat : Nat) : Int) = y := by omega
  have e2 : tv C F B O (.f y.toNat) = rw' (F y) := by show rw' (F ((y.toNat : Nat) : Int)) = _; rw [e]
  rw [e2] at this
  exact this
 ·rw [if_neg hy, zQe h2 hy]
  exact ⟨0, .nil _⟩
theorem SAt.wrote2 {I : Ix -> Prop} {P D : Ix -> Nat} {p q1 q2 t n : Nat} {T : Ix -> Nat -> Bool} {V B : Nat -> Bool} {k : Ix} {w w' : World} (h : SAt I P D p q1 q2 t n (upd T k V) w) (hk : I k) (hm : rm t n k = t + 1) (hs : SetAt (P k) (D k) (t + 1) B w') (hK : Keeps (D k) w w') : SAt I P D p q1 q2 t n (upd T k B) w' := by
 have := h.wrote hk (B := B) (by rw [hm]; exact hs) hK
 rwa [zHt] at this
theorem SAt.target {I : Ix -> Prop} {P D : Ix -> Nat} {p q1 q2 t n : Nat} {T : Ix -> Nat -> Bool} {V : Nat -> Bool} {k : Ix} {w : World} (h : SAt I P D p q1 q2 t n (upd T k V) w) (hk : I k) (hm : rm t n k = t + 1) : SetAt (P k) (D k) (t + 1) V w := by
 have := h.fam.at_ k hk
 rw [zBD, hm] at this
 exact this
theorem zHO {I : Ix -> Prop} {P D : Ix -> Nat} {p q1 q2 t n : Nat} {C : Int -> Bool} {F B : Int -> Int -> Bool} {O : Nat -> Bool} (W0 w : World) (h : SAt I P D p q1 q2 t n (tv C F B O) w) (hT : TOk t n C F B) (k : Ix) (hk : I k) (hm : rm t n k = t + 1) (hb0 : Below W0.heap.size W0 w) (hd : W0.heap.size <= D k)
  (X : List Int) (a : Option Addr) (c : Nat) (hR : Sep.Reads a (ivs X) W0) (hL : LOk X c) :
  Calls Tryz.prog 118 #[.pointer (some ⟨p, 0, none⟩), .pointer (some ⟨P k, 0, none⟩), .slice a X.length c] w (zJx (P k) (D k) (t + 1) (tv C F B O k) F X w) := by
 have FI := zSt (fun T w1 (b : SAt I P D p q1 q2 t n T w1) x => zFQ w1 b x)
 have RR := zSt (fun w1 (b : Below W0.heap.size W0 w1) => Sep.Reads.below hR b (Nat.le_refl _))
 have HK := zSt hk
 have HM := zSt hm
 have HD := zSt hd
 have TO := zSt hT
 have B0 := zSt hb0
 have S0 := zSt (show SAt I P D p q1 q2 t n (upd (tv C F B O) k (jn (tv C F B O k) F (X.take 0))) w by rw [List.take_zero, zO7, upd_same]; exact h)
 have G0 := zSt (show Gn (tv C F B O k) F (X.take 0) false from by rw [List.take_zero]; exact zRR _ _)
 have LO := zSt hL
 have hl := hL.len
 have hcap := hL.cap
 have SELF := zSt (show ∀ y : Int, 0 <= y -> k = .f y.toNat -> tv C F B O k = rw' (F y) /\ fptr P n y = fptr P n y from fun y hy e => by
  subst e
  refine ⟨?_, rfl⟩
  show rw' (F ((y.toNat : Nat) : Int)) = _
  rw [show ((y.toNat : Nat) : Int) = y from by omega])
 clear h hR hL hT hk hm hb0 hd
 go_enter Tryz.func118, Tryz.ntmps118
 go_wp2
 go_loopw [7, 12] (fun m i wr => zSD I P D p q1 q2 t n (tv C F B O) F k X w m i wr) (fun _ i _ => X.length - (intOf i).toNat)
 case atStart => exact ⟨0, false, Nat.zero_le _, rfl, rfl, G0.out, S0.out, .refl _ _⟩
 case round =>
  clear S0 G0
  obtain ⟨j, b, hj, rfl, rfl, hG, hS, hKp⟩ := hrel
  have GG := zSt hG
  have S := zSt hS
  have KP := zSt hKp
  clear hG hS hKp
  by_cases hlt : j < X.length
  ·obtain ⟨bb, o, rfl, hc⟩ := zBf (RR.out _ (zCd B0.out HD.out KP.out)) hlt
   have TN := zSt (zC8 hlt)
   have FC := zSt (FI.out _ _ S.out X[j])
   have hfy := LO.out.at hlt
   by_cases hself : 0 <= X[j] /\ X[j] < (n : Int) /\ k = .f X[j].toNat
   ·obtain ⟨hs0, hs1, hs2⟩ := hself
    have E1 := (SELF.out X[j] hs0 hs2).1
    have EP := zSt (show fptr P n X[j] = .pointer (some ⟨P k, 0, none⟩) by unfold fptr; rw [if_pos ⟨hs0, hs1⟩, hs2])
    have GN := zSt (show Gn (tv C F B O k) F (X.take (j + 1)) b by rw [TN.out]; exact zPu (fun i hi => by rw [E1]; exact hi) GG.out)
    have SN := zSt (show ∀ w', SAt I P D p q1 q2 t n (upd (tv C F B O) k (jn (tv C F B O k) F (X.take j))) w' -> SAt I P D p q1 q2 t n (upd (tv C F B O) k (jn (tv C F B O k) F (X.take (j + 1)))) w' from fun w' h => by
     rw [TN.out, ← zP6 (X.take j) E1]
     exact h)
    have OS := zSt (fun w1 (hS : SAt I P D p q1 q2 t n (upd (tv C F B O) k (jn (tv C F B O k) F (X.take j))) w1) => Bt.zHa w1 (hS.target HK.out HM.out))
    rw [EP.out] at FC
    clear E1 hs2 EP SELF GG
    generalize X[j] = y at *
    go_wp2_with (first
     | (go_at_call 119; refine FC.out.mono ?_; rintro e w1 ⟨rfl, hb⟩; have S1 := zSt (S.out.went hb); have K1 := zSt (KP.out.trans (zFb hb)); clear hb)
     | (go_at_call 92; refine (OS.out _ S1.out).mono ?_; rintro e w2 ⟨rfl, hs, hk⟩; have S2 := zSt (SN.out _ (S1.out.wrote2 HK.out HM.out hs hk)); have K2 := zSt (K1.out.trans hk); clear hs hk))
    go_roundw
    case rel => exact ⟨j + 1, b, by omega, by go_num, rfl, GN.out, S2.out, K2.out⟩
    case measure => simp [intOf]; omega
   ·have OC := zSt (show ∀ w1, SAt I P D p q1 q2 t n (upd (tv C F B O) k (jn (tv C F B O k) F (X.take j))) w1 -> Calls Tryz.prog 92 #[.pointer (some ⟨P k, 0, none⟩), fptr P n X[j]] w1 (Bt.Wrote (gains (jn (tv C F B O k) F (X.take j)) (t + 1) (rw' (F X[j]))) (P k) (D k) (t + 1) (jn (tv C F B O k) F (X.take (j + 1))) w1) from fun w1 hS => by
     obtain ⟨m, ho⟩ := hS.otherV HK.out TO.out.f2 X[j] (fun h0 h1 e => hself ⟨h0, h1, e⟩)
     have := Bt.zGn w1 (hS.target HK.out HM.out) ho
     rwa [zP7 (X.take j) (TO.out.f1 X[j]), ← TN.out] at this)
    have GN := zSt (show Gn (tv C F B O k) F (X.take (j + 1)) (b || gains (jn (tv C F B O k) F (X.take j)) (t + 1) (rw' (F X[j]))) by rw [TN.out]; exact zPv (TO.out.f1 X[j]) GG.out)
    clear hself SELF GG TN
    generalize gains (jn (tv C F B O k) F (X.take j)) (t + 1) (rw' (F X[j])) = g at *
    generalize fptr P n X[j] = u at *
    generalize X[j] = y at *
    cases g with
    | false =>
     rw [Bool.or_false] at GN
     go_wp2_with (first
      | (go_at_call 119; refine FC.out.mono ?_; rintro e w1 ⟨rfl, hb⟩; have S1 := zSt (S.out.went hb); have K1 := zSt (KP.out.trans (zFb hb)); clear hb)
      | (go_at_call 92; refine (OC.out _ S1.out).mono ?_; rintro e w2 ⟨rfl, hs, hk⟩; have S2 := zSt (S1.out.wrote2 HK.out HM.out hs hk); have K2 := zSt (K1.out.trans hk); clear hs hk))
     go_roundw
     case rel => exact ⟨j + 1, b, by omega, by go_num, rfl, GN.out, S2.out, K2.out⟩
     case measure => simp [intOf]; omega
    | true =>
     rw [Bool.or_true] at GN
     go_wp2_with (first
      | (go_at_call 119; refine FC.out.mono ?_; rintro e w1 ⟨rfl, hb⟩; have S1 := zSt (S.out.went hb); have K1 := zSt (KP.out.trans (zFb hb)); clear hb)
      | (go_at_call 92; refine (OC.out _ S1.out).mono ?_; rintro e w2 ⟨rfl, hs, hk⟩; have S2 := zSt (S1.out.wrote2 HK.out HM.out hs hk); have K2 := zSt (K1.out.trans hk); clear hs hk))
     go_roundw
     case rel => exact ⟨j + 1, true, by omega, by go_num, rfl, GN.out, S2.out, K2.out⟩
     case measure => simp [intOf]; omega
  ·have E : X.take j = X := List.take_of_length_le (by omega)
   have T1 := zSt (S.out.target HK.out HM.out)
   rw [E] at T1 GG
   clear E
   go_wp2
   go_ret
   exact ⟨b, rfl, GG.out, T1.out, KP.out⟩
theorem zK9 {I : Ix -> Prop} {P D : Ix -> Nat} {p q1 q2 t n : Nat} {V : Ix -> Nat -> Bool} (w : World) (h : SAt I P D p q1 q2 t n V w) (X : List Int) (a : Option Addr) (c : Nat) (hR : Sep.Reads a (ivs X) w) (hL : LOk X c) :
  Calls Tryz.prog 118 #[.pointer (some ⟨p, 0, none⟩), .pointer none, .slice a X.length c] w (Is (.bool false) w) := by
 have FI := zSt (fun w1 (b : Below w.heap.size w w1) x => zFQ w1 (h.went b) x)
 have RR := zSt (fun w1 (b : Below w.heap.size w w1) => Sep.Reads.below hR b (Nat.le_refl _))
 have OR := zSt (fun u w1 => Bt.zPD (u := u) w1)
 have LO := zSt hL
 have hl := hL.len
 have hcap := hL.cap
 clear h hR hL
 go_enter Tryz.func118, Tryz.ntmps118
 go_wp2
 go_loopw [7, 12] (fun m i wr => ∃ j : Nat, j <= X.length /\ i = .int .i64 j /\ m = .bool false /\ Below w.heap.size w wr) (fun _ i _ => X.length - (intOf i).toNat)
 case atStart => exact ⟨0, Nat.zero_le _, rfl, rfl, .refl _ _⟩
 case round =>
  obtain ⟨j, hj, rfl, rfl, hb⟩ := hrel
  have B := zSt hb
  clear hb
  by_cases hlt : j < X.length
  ·obtain ⟨bb, o, rfl, hc⟩ := zBf (RR.out _ B.out) hlt
   have FC := zSt (FI.out _ B.out X[j])
   generalize fptr P n X[j] = u at *
   generalize X[j] = y at *
   go_wp2_with (first
    | (go_at_call 119; refine FC.out.mono ?_; rintro e w1 ⟨rfl, hb⟩; have B1 := zSt (Gr.step B.out hb); clear hb)
    | (go_at_call 92; refine (OR.out _ _).mono ?_; rintro e w2 ⟨rfl, rfl⟩))
   go_roundw
   case rel => exact ⟨j + 1, by omega, by go_num, rfl, B1.out⟩
   case measure => simp [intOf]; omega
  ·go_wp2
   go_ret
   exact ⟨rfl, B.out⟩
end Fi
namespace Fi
open Gr (boxed step ivs drawn)
open Bt (Keeps putR putI)
open Rw (Bk)
def Ds (I : Ix -> Prop) (D : Ix -> Nat) : Nat -> Prop := fun b => ∃ k, I k /\ b = D k
theorem zBZ {I : Ix -> Prop} {D : Ix -> Nat} {k : Ix} (hk : I k) {w w' : World} (h : Keeps (D k) w w') : Sep.Fr (Ds I D) w w' :=
 ⟨h.os, h.tape, h.output, h.size, fun i hi hS => h.block i hi fun e => hS ⟨k, hk, e⟩⟩
theorem zMs {I : Ix -> Prop} {D : Ix -> Nat} {W0 w w' : World} (hb : Below W0.heap.size W0 w) (hD : ∀ k, I k -> W0.heap.size <= D k) (h : Sep.Fr (Ds I D) w w') : Below W0.heap.size W0 w' :=
 hb.trans (h.below (fun b ⟨k, hk, e⟩ => e ▸ hD k hk) hb.size)
theorem zIa {C : Int -> Bool} {n : Nat} (h : Rng C n) {r : Int × List Int} (h0 : 0 <= r.1) (h1 : r.1 < (n : Int)) : Rng (addC C r) n := fun x k => by
 unfold addC at k
 rw [Bool.or_eq_true, Bool.and_eq_true, decide_eq_true_iff] at k
 rcases k with k | ⟨e, _⟩
 ·exact h x k
 ·subst e
  exact ⟨h0, h1⟩
theorem zOH {C : Int -> Bool} {n s : Nat} {R : List Int} (hs : s < n) (ha : allC C R = true) : putI (rw' C) n (s : Int) = rw' (addC C ((s : Int), R)) /\ putR (rw' C) n (s : Int) = !C (s : Int) := by
 constructor
 ·unfold putI
  rw [if_pos (by omega)]
  funext i
  unfold Bt.put rw' addC
  dsimp only
  rw [ha, Bool.and_true]
  congr 1
  rw [decide_eq_decide]
  omega
 ·unfold putR
  simp [rw', hs]
theorem zBR {C : Int -> Bool} {F : Int -> Int -> Bool} {m : Nat} (h : ∀ x, Rng (F x) m) (l : List Int) : Rng (zAP C F l) m := fun t k => by
 obtain ⟨_, y, _, _, _, h3⟩ := zBg.1 k
 exact h y t h3
theorem zP4 {C : Int -> Bool} {F : Int -> Int -> Bool} {s : Nat} {R : List Int} : jn (rw' (F (s : Int))) F (R.take (zA9 C R)) = rw' (addF C F ((s : Int), R) (s : Int)) := by
 funext i
 unfold jn rw' addF
 dsimp only
 rw [zBP, decide_eq_true rfl, Bool.true_and]
theorem zKm {C : Int -> Bool} {F : Int -> Int -> Bool} {V : Nat -> Bool} {R : List Int} {b : Bool} (h : Gn V F (R.take (zA9 C R)) b) : b = true ↔ ∃ i : Nat, zAP C F R (i : Int) = true /\ V i = false := by
 unfold Gn at h
 rw [h]
 constructor
 ·rintro ⟨i, ⟨y, hy, h1⟩, h2⟩
  refine ⟨i, ?_, h2⟩
  rw [← zBP, List.any_eq_true]
  exact ⟨y, hy, h1⟩
 ·rintro ⟨i, h1, h2⟩
  rw [← zBP, List.any_eq_true] at h1
  obtain ⟨y, hy, h3⟩ := h1
  exact ⟨i, ⟨y, hy, h3⟩, h2⟩
theorem zO3 {Q : Int -> Prop} {m : Nat} (h : ∀ t, Q t -> 0 <= t) : (∃ t, Q t) ↔ ∃ i : Nat, Q (i : Int) :=
 ⟨fun ⟨t, ht⟩ => ⟨t.toNat, by rw [show ((t.toNat : Nat) : Int) = t from by have := h t ht; omega]; exact ht⟩, fun ⟨i, hi⟩ => ⟨i, hi⟩⟩
theorem LOk.take {L : List Int} {c : Nat} (h : LOk L c) (m : Nat) : LOk (L.take m) c :=
 ⟨fun x hx => h.fit x (List.mem_of_mem_take hx), Nat.le_trans (List.length_take_le' _ _) h.len, Nat.le_trans (List.length_take_le' _ _) h.cap⟩
theorem zCP {L : List Int} {a : Option Addr} {w : World} (h : Sep.Reads a (ivs L) w) (m : Nat) : Sep.Reads a (ivs (L.take m)) w := by
 have e : ivs (L.take m) = (ivs L).take m := by unfold ivs; rw [List.map_take]
 rw [e]
 intro i hi
 have hi2 : i < (ivs L).length := by
  rw [List.length_take] at hi
  omega
 obtain ⟨b, o, e, hc⟩ := h i hi2
 refine ⟨b, o, e, ?_⟩
 rw [hc, List.getElem_take]
theorem take_len {C : Int -> Bool} (L : List Int) : (L.take (zA9 C L)).length = zA9 C L := by
 rw [List.length_take]
 have := zNM C L
 omega
def AddE (I : Ix -> Prop) (P D : Ix -> Nat) (p q1 q2 t n : Nat) (C : Int -> Bool) (F B : Int -> Int -> Bool) (O : Nat -> Bool) (r : Int × List Int) (w : World) (e : Ending) (w' : World) : Prop :=
 ∃ b, e = .returned (.bool b) /\ (b = true ↔ allC C r.2 = true /\ C r.1 = false) /\ SAt I P D p q1 q2 t n (tv (addC C r) F B O) w' /\ Sep.Fr (Ds I D) w w'
def AddF (I : Ix -> Prop) (P D : Ix -> Nat) (p q1 q2 t n : Nat) (C : Int -> Bool) (F B : Int -> Int -> Bool) (O : Nat -> Bool) (r : Int × List Int) (w : World) (e : Ending) (w' : World) : Prop :=
 ∃ b, e = .returned (.bool b) /\ (b = true ↔ ∃ t, zAP C F r.2 t = true /\ F r.1 t = false) /\ SAt I P D p q1 q2 t n (tv C (addF C F r) B O) w' /\ Sep.Fr (Ds I D) w w'
theorem zPN {I : Ix -> Prop} {P D : Ix -> Nat} {p q1 q2 t n : Nat} {C : Int -> Bool} {F B : Int -> Int -> Bool} {O : Nat -> Bool} (w : World) (h : SAt I P D p q1 q2 t n (tv C F B O) w) (hT : TOk t n C F B)
  (s : Nat) (hs : s < n) (R : List Int) (a : Option Addr) (c : Nat) (hR : Sep.Reads a (ivs R) w) (hL : LOk R c) :
  Calls Tryz.prog 86 #[.pointer (some ⟨p, 0, none⟩), .agg #[.int .i64 (s : Int), .slice a R.length c]] w (AddE I P D p q1 q2 t n C F B O ((s : Int), R) w) := by
 have bx := boxed w (.cells #[.int .i64 (s : Int), .slice a R.length c] 41)
 have BX := zSt bx
 have Q0 := zSt (Bk.new w #[.int .i64 (s : Int), .slice a R.length c] 41 _ rfl)
 have S0 := zSt (h.went bx)
 have HD := zSt (zCg _ S0.out hT.c R a c (Sep.Reads.below hR bx (Nat.le_refl _)) hL)
 have hn := h.n4
 have HDp := zSt (h.off .e h.ie)
 have HIE := zSt h.ie
 have hdl : D .e < w.heap.size := (h.fam.at_ .e h.ie).ind
 have hdp := (h.off .e h.ie).1
 clear h hR hL bx
 cases ha : allC C R with
 | false =>
  have E := zSt (show addC C ((s : Int), R) = C from zDl fun k => by rw [show allC C ((s : Int), R).2 = false from ha] at k; cases k)
  have EB := zSt (show ((false = true) ↔ allC C ((s : Int), R).2 = true /\ C ((s : Int), R).1 = false) from ⟨(fun k => by cases k), (fun k => by rw [show allC C ((s : Int), R).2 = false from ha] at k; cases k.1)⟩)
  unfold zCb at HD
  rw [ha] at HD
  clear ha hT
  go_enter Tryz.func86, Tryz.ntmps86
  go_wp2_with (go_at_call 117; refine HD.out.mono ?_; rintro e w1 ⟨rfl, hb⟩; have B1 := zSt (Gr.step BX.out hb); have S1 := zSt (S0.out.went hb); clear hb)
  go_quiet (fail)
  go_wp2
  go_ret
  refine ⟨false, rfl, EB.out, by rw [E.out]; exact S1.out.went (zA1 _ _), Sep.Fr.of_below (Gr.step B1.out (zA1 _ _))⟩
 | true =>
  obtain ⟨p1, p2⟩ := zOH hs ha
  have E1 := zSt p1
  have E2 := zSt p2
  have EB := zSt (show ((!C (s : Int)) = true ↔ allC C ((s : Int), R).2 = true /\ C ((s : Int), R).1 = false) by simp [ha])
  unfold zCb at HD
  rw [ha] at HD
  have PU := zSt (fun w1 (k : SAt I P D p q1 q2 t n (tv C F B O) w1) => Bt.zCC w1 (k.fam.at_ .e k.ie) (s : Int) (by omega))
  clear ha hT p1 p2
  go_enter Tryz.func86, Tryz.ntmps86
  go_wp2_with (go_at_call 117; refine HD.out.mono ?_; rintro e w1 ⟨rfl, hb⟩; have B1 := zSt (Gr.step BX.out hb); have S1 := zSt (S0.out.went hb); have Q1 := zSt (Q0.out.went hb); clear hb)
  obtain ⟨y0, y1, yf⟩ := Q1.out.two
  obtain ⟨x0, x1, x2, x3, x4⟩ := Bk.five S1.out.box
  have HQ := zSt (show ∀ w', Sep.Fr (fun b => b = D .e) w1 w' -> w'.cell? ⟨w.heap.size, 0, none⟩ = some (.int .i64 (s : Int)) /\ w'.cell? ⟨p, 2, none⟩ = some (.pointer (some ⟨P .e, 0, none⟩)) /\ Sep.Fr (fun b => b = D .e) w1 w' from
   fun w' hF => ⟨hF.cell y0 (by simp; omega), hF.cell x2 (by simp; omega), hF⟩)
  have hF1 : Sep.Fr (fun b => b = D .e) w1 w1.drew := (Sep.Fr.refl _ _).drew
  clear y1 yf x0 x1 x3 x4
  go_region_held3 (fun w' => w'.cell? ⟨w.heap.size, 0, none⟩ = some (.int .i64 (s : Int)) /\ w'.cell? ⟨p, 2, none⟩ = some (.pointer (some ⟨P .e, 0, none⟩)) /\ Sep.Fr (fun b => b = D .e) w1 w')
   (exact HQ.out _ (by assumption))
   (first
    | (go_at_call 94; refine (PU.out _ (S1.out.went (drawn _))).mono ?_; rintro e w2 ⟨rfl, hs2, hk2⟩; have S2 := zSt ((S1.out.went (drawn _)).wrote HIE.out hs2 hk2); have K2 := zSt hk2; have hF2 : Sep.Fr (fun b => b = D .e) w1 w2 := hF1.trans ⟨hk2.os, hk2.tape, hk2.output, hk2.size, fun i hi hb => hk2.block i hi hb⟩ (fun _ h => .inl h); clear hs2 hk2)
    | fail)
  go_wp2
  go_ret
  refine ⟨_, rfl, ?_, ?_, (Sep.Fr.of_below (Gr.step B1.out (drawn _))).trans (zBZ HIE.out K2.out) fun _ h => .inl h⟩
  ·rw [show putR (tv C F B O .e) (rm t n .e) (s : Int) = !C (s : Int) from E2.out]
   exact EB.out
  ·have := S2.out
   rwa [tv_e (D := addC C ((s : Int), R)) (show putI (tv C F B O .e) (rm t n .e) (s : Int) = rw' (addC C ((s : Int), R)) from E1.out)] at this
theorem zPO {I : Ix -> Prop} {P D : Ix -> Nat} {p q1 q2 t n : Nat} {C : Int -> Bool} {F B : Int -> Int -> Bool} {O : Nat -> Bool} (W0 w : World) (h : SAt I P D p q1 q2 t n (tv C F B O) w) (hT : TOk t n C F B) (hb0 : Below W0.heap.size W0 w) (hD : ∀ k, I k -> W0.heap.size <= D k)
  (s : Nat) (hs : s < n) (R : List Int) (a : Option Addr) (c : Nat) (hR : Sep.Reads a (ivs R) W0) (hL : LOk R c) :
  Calls Tryz.prog 87 #[.pointer (some ⟨p, 0, none⟩), .agg #[.int .i64 (s : Int), .slice a R.length c]] w (AddF I P D p q1 q2 t n C F B O ((s : Int), R) w) := by
 have bx := boxed w (.cells #[.int .i64 (s : Int), .slice a R.length c] 41)
 have BX := zSt bx
 have Q0 := zSt (Bk.new w #[.int .i64 (s : Int), .slice a R.length c] 41 _ rfl)
 have S0 := zSt (h.went bx)
 have HD := zSt (zCg _ S0.out hT.c R a c (Sep.Reads.below hR (Gr.step hb0 bx) (Nat.le_refl _)) hL)
 have hn := h.n4
 have FI := zSt (fun w1 (b : SAt I P D p q1 q2 t n (tv C F B O) w1) => zFQ w1 b (s : Int))
 have EP := zSt (show fptr P n (s : Int) = .pointer (some ⟨P (.f s), 0, none⟩) by unfold fptr; rw [if_pos (by omega)]; rfl)
 have JO := zSt (fun w1 (k : SAt I P D p q1 q2 t n (tv C F B O) w1) (hb : Below W0.heap.size W0 w1) => zHO W0 w1 k hT (.f s) (k.if_ s hs) rfl hb (hD _ (k.if_ s hs)) (R.take (zA9 C R)) a c (zCP hR _) (hL.take _))
 rw [take_len] at JO
 rw [EP.out] at FI
 have HIF := zSt (h.if_ s hs)
 have HB0 := zSt hb0
 have RG := zSt (zBR (C := C) hT.f1 R)
 clear h hR hL bx hT hb0 hD EP
 unfold zCb at HD
 go_enter Tryz.func87, Tryz.ntmps87
 go_wp2_with (first
  | (go_at_call 117; refine HD.out.mono ?_; rintro e w1 ⟨rfl, hb⟩; have B1 := zSt (Gr.step BX.out hb); have S1 := zSt (S0.out.went hb); have Q1 := zSt (Q0.out.went hb); clear hb; obtain ⟨y0, y1, yf⟩ := Q1.out.two)
  | (go_at_call 119; refine (FI.out _ S1.out).mono ?_; rintro e w2 ⟨rfl, hb⟩; have B2 := zSt (Gr.step B1.out hb); have S2 := zSt (S1.out.went hb); clear hb)
  | (go_at_call 118; refine (JO.out _ S2.out (Gr.step HB0.out B2.out)).mono ?_; rintro e w3 ⟨b, rfl, hg, hs3, hk3⟩; have G3 := zSt hg; have S3 := zSt (S2.out.wrote HIF.out hs3 hk3); have K3 := zSt hk3; clear hg hs3 hk3))
 go_ret
 refine ⟨b, rfl, ?_, ?_, (Sep.Fr.of_below B2.out).trans (zBZ HIF.out K3.out) fun _ h => .inl h⟩
 ·rw [zKm G3.out, zO3 (m := 0) (fun t ht => (RG.out t ht.1).1)]
  exact Iff.rfl
 ·have := S3.out
  rwa [tv_f (H := addF C F ((s : Int), R)) (show jn (tv C F B O (.f s)) F (R.take (zA9 C R)) = rw' (addF C F ((s : Int), R) (s : Int)) from zP4) (fun x hx => by funext t; unfold addF; dsimp only; rw [decide_eq_false hx]; simp)] at this
end Fi
namespace Fi
open Gr (Gram nonB step ivs)
open Bt (SetAt Keeps orr gains)
open Rw (Bk)
theorem zJW {L : List Int} {b o : Nat} {w : World} (h : Sep.Reads (some ⟨b, o, none⟩) (ivs L) w) (m : Nat) : Sep.Reads (some ⟨b, o + m, none⟩) (ivs (L.drop m)) w := by
 have e : ivs (L.drop m) = (ivs L).drop m := by unfold ivs; rw [List.map_drop]
 rw [e]
 intro i hi
 have hi2 : m + i < (ivs L).length := by
  rw [List.length_drop] at hi
  omega
 obtain ⟨b', o', e, hc⟩ := h (m + i) hi2
 injection e with e
 injection e with e1 e2 _
 subst e1
 subst e2
 refine ⟨b, o + m, rfl, ?_⟩
 rw [List.getElem_drop, Nat.add_assoc]
 exact hc
theorem LOk.drop {L : List Int} {c : Nat} (h : LOk L c) (m : Nat) : LOk (L.drop m) (c - m) :=
 ⟨fun x hx => h.fit x (List.mem_of_mem_drop hx), by rw [List.length_drop]; have := h.len; omega, by rw [List.length_drop]; have := h.cap; omega⟩
def zSL (p d m : Nat) (V U : Nat -> Bool) (w : World) (e : Ending) (w' : World) : Prop :=
 ∃ g, e = .returned (.bool g) /\ (g = true ↔ ∃ i : Nat, U i = true /\ V i = false) /\ SetAt p d m (fun i => V i || U i) w' /\ Keeps d w w'
theorem zRn {I : Ix -> Prop} {P D : Ix -> Nat} {p q1 q2 t n : Nat} {C : Int -> Bool} {F B : Int -> Int -> Bool} {O V : Nat -> Bool} {s x : Nat} (w : World) (h : SAt I P D p q1 q2 t n (upd (tv C F B O) (.g x) V) w) (hx : t < x /\ x < n) (hs : t < s /\ s < n) (hr : Rng (B (s : Int)) (t + 1)) (he : s = x -> ∀ i : Nat, B (s : Int) (i : Int) = true -> V i = true) :
  Calls Tryz.prog 92 #[.pointer (some ⟨P (.g x), 0, none⟩), .pointer (some ⟨P (.g s), 0, none⟩)] w (zSL (P (.g x)) (D (.g x)) (t + 1) V (rw' (B (s : Int))) w) := by
 have hk := h.ig x hx.1 hx.2
 have ht := h.target hk rfl
 by_cases e : s = x
 ·subst e
  refine (Bt.zHa w ht).mono ?_
  rintro e w' ⟨rfl, h1, h2⟩
  have E : (fun i => V i || rw' (B (s : Int)) i) = V := by
   funext i
   unfold rw'
   cases k : B (s : Int) (i : Int) with
   | false => simp
   | true => rw [he rfl i k]; rfl
  refine ⟨false, rfl, ⟨(fun k => by cases k), fun ⟨i, k1, k2⟩ => ?_⟩, by rw [E]; exact h1, h2⟩
  rw [he rfl i k1] at k2
  cases k2
 ·have ho := h.fam.other hk (h.ig s hs.1 hs.2) (fun k => e (by injection k))
  rw [zAR _ _ (fun k => e (by injection k))] at ho
  refine (Bt.zGn w ht ho).mono ?_
  rintro e w' ⟨rfl, h1, h2⟩
  have E : orr V (t + 1) (tv C F B O (.g s)) = fun i => V i || rw' (B (s : Int)) i := by
   funext i
   unfold orr
   show (V i || (rw' (B (s : Int)) i && _)) = _
   cases k : rw' (B (s : Int)) i with
   | false => simp
   | true =>
    have := (hr _ k).2
    have h3 : i < t + 1 := by omega
    simp [h3]
  refine ⟨_, rfl, ?_, by rw [← E]; exact h1, h2⟩
  unfold gains
  rw [List.any_eq_true]
  constructor
  ·rintro ⟨i, _, k⟩
   rw [Bool.and_eq_true] at k
   exact ⟨i, k.1, by simpa using k.2⟩
  ·rintro ⟨i, k1, k2⟩
   refine ⟨i, List.mem_range.2 (by have := (hr _ k1).2; omega), ?_⟩
   rw [Bool.and_eq_true]
   exact ⟨k1, by rw [k2]; rfl⟩
theorem zIj {t n : Nat} {C : Int -> Bool} {F B : Int -> Int -> Bool} (h : TOk t n C F B) (r : Int × List Int) (k : Nat) {x : Int} (h0 : (t : Int) < x) (h1 : x < (n : Int)) : TOk t n C F (addB C F B r k x) := by
 refine ⟨h.c, h.f1, h.f2, fun y i e => ?_, fun y i e => ?_⟩
 ·unfold addB behP at e
  simp only [Bool.or_eq_true, Bool.and_eq_true, decide_eq_true_iff] at e
  rcases e with e | ⟨_, e | ⟨_, e⟩⟩
  ·exact h.b1 y i e
  ·exact zBR h.f1 _ i e
  ·exact h.b1 _ i e
 ·unfold addB at e
  simp only [Bool.or_eq_true, Bool.and_eq_true, decide_eq_true_iff] at e
  rcases e with e | ⟨e, _⟩
  ·exact h.b2 y i e
  ·subst e
   exact ⟨h0, h1⟩
theorem zNE {G : Gram} {n t : Nat} {B0 B : Int -> Int -> Bool} {j k : Nat} {b0 b b1 g : Bool} (h : TriedB G n (canB G) (fstB G) B0 j k B (b0 || b)) (hT : TOk t n (canB G) (fstB G) B) (hj : j < G.rules.length) (hk : k < G.rules[j].2.length) (hn : nonB G G.rules[j].2[k] = true) (h0 : 0 <= G.rules[j].2[k]) (h1 : G.rules[j].2[k] < (n : Int))
  (e1 : b1 = true ↔ ∃ i : Nat, zAP (canB G) (fstB G) (G.rules[j].2.drop (k + 1)) (i : Int) = true /\ B G.rules[j].2[k] (i : Int) = false)
  (e2 : g = true ↔ allC (canB G) (G.rules[j].2.drop (k + 1)) = true /\ ∃ i : Nat, B G.rules[j].1 (i : Int) = true /\ (B G.rules[j].2[k] (i : Int) || zAP (canB G) (fstB G) (G.rules[j].2.drop (k + 1)) (i : Int)) = false) (m : Bool) (hm : m = (b || b1 || g)) :
  TriedB G n (canB G) (fstB G) B0 j (k + 1) (addB (canB G) (fstB G) B G.rules[j] k G.rules[j].2[k]) (b0 || m) := by
 have := h.step (c := b1 || g) (zLA G) hj hk hn h0 h1 ?_
 ·rw [hm, ← Bool.or_assoc, ← Bool.or_assoc]
  rw [← Bool.or_assoc] at this
  exact this
 ·rw [Bool.or_eq_true, e1, e2]
  constructor
  ·rintro (⟨i, k1, k2⟩ | ⟨ka, i, k1, k2⟩)
   ·refine ⟨(i : Int), ?_, k2⟩
    unfold behP
    rw [k1]
    rfl
   ·rw [Bool.or_eq_false_iff] at k2
    refine ⟨(i : Int), ?_, k2.1⟩
    unfold behP
    rw [ka, k1]
    simp
  ·rintro ⟨t', k1, k2⟩
   have hr : 0 <= t' := by
    unfold behP at k1
    simp only [Bool.or_eq_true, Bool.and_eq_true] at k1
    rcases k1 with k1 | ⟨_, k1⟩
    ·exact (zBR hT.f1 _ t' k1).1
    ·exact (hT.b1 _ t' k1).1
   obtain ⟨i, rfl⟩ : ∃ i : Nat, t' = (i : Int) := ⟨t'.toNat, by omega⟩
   unfold behP at k1
   cases hl : zAP (canB G) (fstB G) (G.rules[j].2.drop (k + 1)) (i : Int) with
   | true => exact .inl ⟨i, hl, k2⟩
   | false =>
    rw [hl, Bool.false_or, Bool.and_eq_true] at k1
    exact .inr ⟨k1.1, i, k1.2, by rw [k2, hl]; rfl⟩
def AddB (I : Ix -> Prop) (P D : Ix -> Nat) (p q1 q2 t n : Nat) (G : Gram) (B0 : Int -> Int -> Bool) (j : Nat) (b0 : Bool) (O : Nat -> Bool) (w : World) (e : Ending) (w' : World) : Prop :=
 ∃ b B, e = .returned (.bool b) /\ TriedB G n (canB G) (fstB G) B0 (j + 1) 0 B (b0 || b) /\ TOk t n (canB G) (fstB G) B /\ SAt I P D p q1 q2 t n (tv (canB G) (fstB G) B O) w' /\ Sep.Fr (Ds I D) w w'
structure FSt (I : Ix -> Prop) (P D : Ix -> Nat) (p q1 q2 t n : Nat) (G : Gram) (B0 : Int -> Int -> Bool) (j k : Nat) (b0 b : Bool) (O : Nat -> Bool) (B : Int -> Int -> Bool) (W : World) (u0 u1 : Value) (w : World) : Prop where
 tr : TriedB G n (canB G) (fstB G) B0 j k B (b0 || b)
 ok : TOk t n (canB G) (fstB G) B
 s : SAt I P D p q1 q2 t n (tv (canB G) (fstB G) B O) w
 fr : Sep.Fr (Ds I D) W w
 box : Bk W.heap.size #[u0, u1] 41 w
def zSA (I : Ix -> Prop) (P D : Ix -> Nat) (p q1 q2 t n : Nat) (G : Gram) (B0 : Int -> Int -> Bool) (j : Nat) (b0 : Bool) (O : Nat -> Bool) (W : World) (u0 u1 : Value) (l : Nat) (m i : Value) (w : World) : Prop :=
 ∃ (k : Nat) (b : Bool) (B : Int -> Int -> Bool), k <= l /\ i = .int .i64 k /\ m = .bool b /\ FSt I P D p q1 q2 t n G B0 j k b0 b O B W u0 u1 w
theorem zSU {I : Ix -> Prop} {P D : Ix -> Nat} {p q1 q2 t n : Nat} {V : Ix -> Nat -> Bool} {w : World} (h : SAt I P D p q1 q2 t n V w) : ¬ Ds I D w.heap.size := fun ⟨k, hk, e⟩ => by
 have := (h.fam.at_ k hk).ind
 omega
theorem FSt.went {I : Ix -> Prop} {P D : Ix -> Nat} {p q1 q2 t n : Nat} {G : Gram} {B0 : Int -> Int -> Bool} {j k : Nat} {b0 b : Bool} {O : Nat -> Bool} {B : Int -> Int -> Bool} {W : World} {u0 u1 : Value} {w w' : World} (h : FSt I P D p q1 q2 t n G B0 j k b0 b O B W u0 u1 w) (hb : Below w.heap.size w w') : FSt I P D p q1 q2 t n G B0 j k b0 b O B W u0 u1 w' :=
 ⟨h.tr, h.ok, h.s.went hb, Rw.zB7 h.fr hb, h.box.went hb⟩
