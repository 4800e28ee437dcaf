/- A part of the proof. -/
import Derived.Test.YtbajcecncgdpmaaGreatDoorPk25
import Derived.Test.YtbajcecncgdpmaaGreatDoorPk29
set_option maxHeartbeats 16000000
set_option maxRecDepth 100000
set_option linter.unusedVariables false
namespace Go.Proofs.YtbajcecncgdpmaaGreatDoor
open Go.RowKit Go.Maps
namespace Fi
open Gr
open Rw (Bk)
theorem zHG {q : Nat} {a w : World} (h : Sep.Fr (fun b => b = q) a w) (j : Nat) (u : Value) : Sep.Fr (fun b => b = q) a (w.setCell ⟨q, j, none⟩ u) := h.setCell ⟨q, j, none⟩ rfl u
def Started (G : Gram) (t n : Nat) (w : World) (e : Ending) (w' : World) : Prop :=
 ∃ P D p q1 q2, e = .returned (.pointer (some ⟨p, 0, none⟩)) /\ SAt (Iab t n n) P D p q1 q2 t n (tv zCJ (zBC G) (zBW G) no0) w' /\ (∀ k, Iab t n n k -> w.heap.size <= D k) /\ Below w.heap.size w w'
def zSS (W : World) (h : Sh) (G : Gram) (p q1 q2 t n : Nat) (i : Value) (w : World) : Prop :=
 ∃ (j : Nat) (P D : Ix -> Nat), j <= n /\ i = .int .i64 j /\ LSt W h G P D p q1 q2 t n j j (V0 G) w
theorem zMK (h : Sh) (G : Gram) (w : World) (k : GAt h G w) (hs : Sml G) :
  Calls Tryz.prog 84 #[gv h G] w (Started G G.terms.length (top G + 1) w) := by
 obtain ⟨a1, c1, a2, c2, a3, c3⟩ := h
 have X := zSt (Bx.start ⟨a1, c1, a2, c2, a3, c3⟩ G w 25)
 have T1 := zSt (fun w1 (b : Below w.heap.size w w1) => zBe ⟨a1, c1, a2, c2, a3, c3⟩ G w1 (k.went b))
 obtain ⟨x0, x1, x2, x3⟩ := X.out.box
 try dsimp only at x0 x1 x2 x3
 have ht := hs.t
 have hn := hs.n
 have TP := zSt (show top G = G.terms.length + G.nons.length from rfl)
 have htop : top G <= 240 := by have := TP.out; omega
 have HST := zSt (show nonB G G.start = true from by have := hs.known; unfold zAW at this; rw [Bool.and_eq_true] at this; exact this.1)
 have HS := zSt (show ∃ s : Nat, G.start = (s : Int) /\ G.terms.length < s /\ s < top G + 1 from ⟨G.start.toNat, by have := zAM.1 HST.out; omega, by have := zAM.1 HST.out; omega, by have := zAM.1 HST.out; have := TP.out; omega⟩)
 have hcap : Bt.cap ((top G : Int) + 1) = top G + 1 := by unfold Bt.cap; omega
 have N := zSt (fun w1 => Bt.zFj ((top G : Int) + 1) w1)
 rw [hcap] at N
 have hm1 := fun w => show (Instr.makeSlice 159 (.int .i64 ((top G : Int) + 1)) (.int .i64 ((top G : Int) + 1))).run Tryz.prog w = _ from zLU (top G + 1) (by omega) w
 clear k hs hcap
 unfold gv
 dsimp only
 go_enter Tryz.func84, Tryz.ntmps84
 go_upto_region 2 with (go_at_call 51; refine (T1.out _ X.out.below).mono ?_; rintro e w2 ⟨rfl, hb⟩; have X2 := zSt (X.out.went hb); clear hb x0 x1 x2 x3; obtain ⟨x0, x1, x2, x3⟩ := X2.out.box; try dsimp only at x0 x1 x2 x3)
 go_cut [4] (fun s wx => Mid w ⟨a1, c1, a2, c2, a3, c3⟩ G G.terms.length (top G + 1) 0 0 (V0 G) s wx)
 case first =>
  have hq2 : w.heap.size < w2.heap.size := X2.out.size
  have hbd := drawn w2
  have HQ := zSt (fun w' (b : Below w2.heap.size w2 w') => And.intro (cell_later b x0) b)
  go_region_held3 (fun w' => w'.cell? ⟨w.heap.size, 0, none⟩ = some (.slice a1 G.terms.length c1) /\ Below w2.heap.size w2 w')
   (exact HQ.out _ (by repeat (first | assumption | (with_reducible exact Below.refl _ _) | (with_reducible refine Below.drew ?_) | (with_reducible refine Gr.step ?_ (Gr.boxed _ _)))))
   (first
    | (go_at_call 93; (with_reducible refine (N.out _).mono ?_); rintro e w3 ⟨pe, de, rfl, hpe, hde, hse, hb3, _⟩; have kB : Below w2.heap.size w2 w3 := Gr.step (by repeat (first | assumption | (with_reducible exact Below.refl _ _) | (with_reducible refine Below.drew ?_) | (with_reducible refine Gr.step ?_ (Gr.boxed _ _)))) hb3)
    | fail)
  all_goals
   go_wp2_with fail
   go_meet
   case rel =>
    have htp := TP.out
    have hdr : ∀ u : World, u.drew.heap.size = u.heap.size := fun _ => rfl
    have hsz1 := hse.inp
    have hsz2 := hse.ind
    have hsz3 := hb3.size
    refine zRh (pe := pe) (de := de) (n := top G + 1) (?_) (?_) (?_) (?_) (?_) (?_) (?_) (?_) (?_) (?_) (?_) (?_) (?_) (?_) _ rfl _ (?_)
    ·repeat (first | exact Bk.new _ _ _ _ rfl | (refine Bk.new _ _ _ _ ?_; simp; done) | refine Bk.went ?_ (boxed _ _) | refine Bk.went ?_ hb3 | refine Bk.went ?_ (drawn _))
    ·repeat (first | exact Bk.new _ _ _ _ rfl | (refine Bk.new _ _ _ _ ?_; simp; done) | refine Bk.went ?_ (boxed _ _) | refine Bk.went ?_ hb3 | refine Bk.went ?_ (drawn _))
    ·repeat (first | exact hse | refine zEI ?_ (boxed _ _))
    ·repeat (first | exact X2.out | refine Bx.went ?_ (boxed _ _) | refine Bx.went ?_ hb3 | refine Bx.went ?_ (drawn _))
    all_goals try rw [hdr] at hpe hde hsz3
    all_goals first | omega | (simp at hpe hde hsz1 hsz2 hsz3 ⊢ <;> omega)
 case rest =>
  obtain ⟨P, D, p, q1, q2, rfl, hL⟩ := hcut
  have L0 := zSt hL
  clear hL X X2 T1 N hm1 x0 x1 x2 x3
  go_wp2
  go_loopw [23] (fun i wr => zSS w ⟨a1, c1, a2, c2, a3, c3⟩ G p q1 q2 G.terms.length (top G + 1) i wr) (fun i _ => top G + 1 - (intOf i).toNat)
  case atStart => exact ⟨0, P, D, Nat.zero_le _, rfl, L0.out⟩
  case round =>
   clear L0 P D
   obtain ⟨j, P, D, hj, rfl, hL⟩ := hrel
   have L := zSt hL
   clear hL
   obtain ⟨y0, y1, y2, y3, y4⟩ := Bk.five L.out.s.box
   by_cases hlt : j < top G + 1
   ·have TC := zSt (fun w1 (b : Below wr.heap.size wr w1) => zIi w1 (cell_later b y0) (by omega))
    have hbd := drawn wr
    have np := L.out.s.n1
    have HQ := zSt (fun w' (f : Sep.Fr (fun b => b = q1) wr w') => And.intro (f.cell y3 np) f)
    have hf0 : Sep.Fr (fun b => b = q1) wr wr.drew := (Sep.Fr.refl _ _).drew
    have NC := zSt (fun w1 => zPC G.terms.length (top G + 1) (j : Int) w1 (by omega))
    have i0 : (0 : Int) <= (j : Int) := by omega
    have i1 : (j : Int) < (top G : Int) + 1 := by omega
    go_wp2
    go_region_held3 (fun w' => w'.cell? ⟨p, 3, none⟩ = some (.slice (some ⟨q1, 0, none⟩) (top G + 1) (top G + 1)) /\ Sep.Fr (fun b => b = q1) wr w')
     (exact HQ.out _ (by repeat (first | assumption | (with_reducible exact Sep.Fr.refl _ _) | (with_reducible refine Sep.Fr.drew ?_) | (with_reducible refine Sep.Fr.alloc ?_ _) | (with_reducible refine zHG ?_ _ _))))
     (first
      | (go_at_call 115; (with_reducible refine (TC.out _ (by repeat (first | assumption | (with_reducible exact Below.refl _ _) | (with_reducible refine Below.drew ?_) | (with_reducible refine Gr.step ?_ (Gr.boxed _ _))))).mono ?_); rintro e w3 ⟨pN, dN, rfl, hp3, hd3, hs3, hb3, _⟩; have kB : Below wr.heap.size wr w3 := Gr.step (by repeat (first | assumption | (with_reducible exact Below.refl _ _) | (with_reducible refine Below.drew ?_) | (with_reducible refine Gr.step ?_ (Gr.boxed _ _)))) hb3; have kF : Sep.Fr (fun b => b = q1) wr w3 := Sep.Fr.of_below kB; have LS := zSt ((L.out.went (by repeat (first | assumption | (with_reducible exact Below.refl _ _) | (with_reducible refine Below.drew ?_) | (with_reducible refine Gr.step ?_ (Gr.boxed _ _))))).fill1 hlt hb3 hs3 hp3 hd3); have zf := (L.out.went kB).s.free1; have z := (L.out.went kB).s.firsts j hlt)
      | fail)
    clear y0 y1 y2 y3 y4 z zf HQ hf0 kF kB hp3 hd3 hs3 hb3 TC hbd
    generalize w3.setCell ⟨q1, j, none⟩ (.pointer (some ⟨pN, 0, none⟩)) = w4 at *
    obtain ⟨y0, y1, y2, y3, y4⟩ := Bk.five LS.out.s.box
    by_cases hnt : G.terms.length < j
    ·have hnb : ntB G.terms.length (top G + 1) (j : Int) = true := decide_eq_true (by omega)
     rw [hnb] at NC
     have L4 := zSt (LS.out.eq (zRz hnt))
     clear LS hnb L
     go_wp2_with (go_at_call 116; refine (NC.out _).mono ?_; rintro e w5 ⟨rfl, hb⟩; have L5 := zSt (L4.out.went hb); clear hb y0 y1 y2 y3 y4; obtain ⟨y0, y1, y2, y3, y4⟩ := Bk.five L5.out.s.box)
     clear L4
     have TC := zSt (fun w1 (b : Below w5.heap.size w5 w1) => zIi w1 (cell_later b y0) (by omega))
     have hbd := drawn w5
     have np := L5.out.s.n2
     have HQ := zSt (fun w' (f : Sep.Fr (fun b => b = q2) w5 w') => And.intro (f.cell y4 np) f)
     have hf0 : Sep.Fr (fun b => b = q2) w5 w5.drew := (Sep.Fr.refl _ _).drew
     go_region_held3 (fun w' => w'.cell? ⟨p, 4, none⟩ = some (.slice (some ⟨q2, 0, none⟩) (top G + 1) (top G + 1)) /\ Sep.Fr (fun b => b = q2) w5 w')
      (exact HQ.out _ (by repeat (first | assumption | (with_reducible exact Sep.Fr.refl _ _) | (with_reducible refine Sep.Fr.drew ?_) | (with_reducible refine Sep.Fr.alloc ?_ _) | (with_reducible refine zHG ?_ _ _))))
      (first
       | (go_at_call 115; (with_reducible refine (TC.out _ (by repeat (first | assumption | (with_reducible exact Below.refl _ _) | (with_reducible refine Below.drew ?_) | (with_reducible refine Gr.step ?_ (Gr.boxed _ _))))).mono ?_); rintro e w6 ⟨pM, dM, rfl, hp6, hd6, hs6, hb6, _⟩; have kB : Below w5.heap.size w5 w6 := Gr.step (by repeat (first | assumption | (with_reducible exact Below.refl _ _) | (with_reducible refine Below.drew ?_) | (with_reducible refine Gr.step ?_ (Gr.boxed _ _)))) hb6; have kF : Sep.Fr (fun b => b = q2) w5 w6 := Sep.Fr.of_below kB; have LS := zSt ((L5.out.went (by repeat (first | assumption | (with_reducible exact Below.refl _ _) | (with_reducible refine Below.drew ?_) | (with_reducible refine Gr.step ?_ (Gr.boxed _ _))))).fill2 hlt hnt hb6 hs6 hp6 hd6); have zf := (L5.out.went kB).s.free2; have z := (L5.out.went kB).s.follows j hlt)
       | fail)
     have L7 := zSt (LS.out.eq (zRy j))
     go_wp2
     go_roundw
     case rel => exact ⟨j + 1, _, _, by omega, by go_num, L7.out⟩
     case measure => simp [intOf]; omega
    ·have hnb : ntB G.terms.length (top G + 1) (j : Int) = false := decide_eq_false (by omega)
     rw [hnb] at NC
     have L4 := zSt (LS.out.skip2 (by omega))
     have hjt : j <= G.terms.length := by omega
     clear LS hnb L
     have PU := zSt (fun w1 (b : Below w4.heap.size w4 w1) => Bt.zCC w1 ((L4.out.went b).s.fam.at_ (.f j) (Nat.lt_succ_self j)) (j : Int) (by omega))
     have z0 := L4.out.s.firsts j hlt
     rw [if_pos (Nat.lt_succ_self j)] at z0
     have Z0 := zSt z0
     clear z0
     rw [zBD] at PU
     go_wp2_with (first
      | (go_at_call 116; refine (NC.out _).mono ?_; rintro e w5 ⟨rfl, hb⟩; have L5 := zSt (L4.out.went hb); have z := cell_later hb Z0.out; have PC := zSt (PU.out _ hb); clear hb y0 y1 y2 y3 y4; obtain ⟨y0, y1, y2, y3, y4⟩ := Bk.five L5.out.s.box)
      | (go_at_call 94; refine PC.out.mono ?_; rintro e w6 ⟨rfl, hs6, hk6⟩; have L6 := zSt (L5.out.wrote (k := .f j) (Nat.lt_succ_self j) hs6 hk6); clear hs6 hk6))
     have L7 := zSt (L6.out.eq (zQw hjt))
     go_roundw
     case rel => exact ⟨j + 1, _, _, by omega, by go_num, L7.out⟩
     case measure => simp [intOf]; omega
   ·have hE : j = top G + 1 := by omega
    subst hE
    obtain ⟨s, hs1, hs2, hs3⟩ := HS.out
    obtain ⟨x0, x1, x2, x3⟩ := L.out.x.box
    try dsimp only at x0 x1 x2 x3
    have EV := zSt (zOv hs1)
    have z := L.out.s.follows s hs3
    rw [if_pos ⟨hs2, hs3⟩] at z
    have PU := zSt (fun w1 (b : Below wr.heap.size wr w1) => Bt.zCC w1 ((L.out.went b).s.fam.at_ (.g s) ⟨hs2, hs3⟩) 0 (by omega))
    have HIg := zSt (show Iab G.terms.length (top G + 1) (top G + 1) (.g s) from ⟨hs2, hs3⟩)
    have nd := L.out.s.off (.g s) HIg.out
    have ld := L.out.lo (.g s) HIg.out
    have nd1 := nd.1
    have nd2 := nd.2.2.1
    clear nd
    rw [hs1] at x3
    have i0 : (0 : Int) <= (s : Int) := by omega
    have i1 : (s : Int) < (top G : Int) + 1 := by omega
    have HQ := zSt (fun w' (f : Sep.Fr (fun b => b = D (.g s)) wr w') => And.intro (f.cell y4 (show ¬ p = D (.g s) from fun e => nd1 e.symm)) (And.intro (f.cell x3 (show ¬ w.heap.size = D (.g s) by omega)) (And.intro (f.cell z (show ¬ q2 = D (.g s) from fun e => nd2 e.symm)) f)))
    have hf0 : Sep.Fr (fun b => b = D (.g s)) wr wr.drew := (Sep.Fr.refl _ _).drew
    have hbd := drawn wr
    go_wp2
    go_region_held3 (fun w' => w'.cell? ⟨p, 4, none⟩ = some (.slice (some ⟨q2, 0, none⟩) (top G + 1) (top G + 1)) /\ w'.cell? ⟨w.heap.size, 3, none⟩ = some (.int .i64 (s : Int)) /\ w'.cell? ⟨q2, s, none⟩ = some (.pointer (some ⟨P (.g s), 0, none⟩)) /\ Sep.Fr (fun b => b = D (.g s)) wr w')
     (exact HQ.out _ (by repeat (first | assumption | (with_reducible exact Sep.Fr.refl _ _) | (with_reducible refine Sep.Fr.drew ?_) | (with_reducible refine Sep.Fr.alloc ?_ _) | (with_reducible refine zHG ?_ _ _))))
     (first
      | (go_at_call 94; (with_reducible refine (PU.out _ (by repeat (first | assumption | (with_reducible exact Below.refl _ _) | (with_reducible refine Below.drew ?_) | (with_reducible refine Gr.step ?_ (Gr.boxed _ _))))).mono ?_); rintro e w6 ⟨rfl, hs6, hk6⟩; have L6 := zSt ((L.out.went (by repeat (first | assumption | (with_reducible exact Below.refl _ _) | (with_reducible refine Below.drew ?_) | (with_reducible refine Gr.step ?_ (Gr.boxed _ _))))).wrote (k := .g s) HIg.out hs6 hk6); have kF : Sep.Fr (fun b => b = D (.g s)) wr w6 := hf0.trans ⟨hk6.os, hk6.tape, hk6.output, hk6.size, fun i hi hb => hk6.block i hi hb⟩ (fun _ h => .inl h); clear hs6 hk6)
      | fail)
    have L7 := zSt (L6.out.eq EV.out)
    go_wp2
    go_ret
    exact ⟨P, D, p, q1, q2, rfl, L7.out.s.full, fun k hk => Nat.le_of_lt (L7.out.lo k hk), L7.out.x.below⟩
end Fi
namespace Fi
open Gr
theorem zDc {G : Gram} (h : zAW G = true) {r : Int × List Int} (hr : r ∈ G.rules) : nonB G r.1 = true := by
 unfold zAW at h
 simp only [Bool.and_eq_true, List.all_eq_true] at h
 exact (h.2 r hr).1
theorem zOS {G : Gram} (h : zAW G = true) {r : Int × List Int} (hr : r ∈ G.rules) {y : Int} (hy : y ∈ r.2) : 1 <= y /\ y <= (top G : Int) := by
 unfold zAW at h
 simp only [Bool.and_eq_true, List.all_eq_true] at h
 have := (h.2 r hr).2 y hy
 simpa using this
theorem zC7 {G : Gram} (h : zAW G = true) : nonB G G.start = true := by
 unfold zAW at h
 rw [Bool.and_eq_true] at h
 exact h.1
theorem zBs {G : Gram} (h : zAW G = true) : zIn G (top G + 1) := fun r hr => by
 have := zAM.1 (zDc h hr)
 have e : top G = G.terms.length + G.nons.length := rfl
 omega
theorem zMB {G : Gram} (h : zAW G = true) : Rng (canB G) (top G + 1) := fun x hx => by
 obtain ⟨r, hr, rfl⟩ := zMz (zAn.1 hx)
 have := zBs h r hr
 omega
theorem tok0 {G : Gram} (h : zAW G = true) {C : Int -> Bool} (hC : Rng C (top G + 1)) : TOk G.terms.length (top G + 1) C (zBC G) (zBW G) := by
 have e : top G = G.terms.length + G.nons.length := rfl
 have hs := zAM.1 (zC7 h)
 refine ⟨hC, fun x i hi => ?_, fun x i hi => ?_, fun x i hi => ?_, fun x i hi => ?_⟩
 ·unfold zBC at hi
  rw [decide_eq_true_iff] at hi
  omega
 ·unfold zBC at hi
  rw [decide_eq_true_iff] at hi
  omega
 ·unfold zBW at hi
  rw [decide_eq_true_iff] at hi
  omega
 ·unfold zBW at hi
  rw [decide_eq_true_iff] at hi
  omega
theorem TOk.addF {t n : Nat} {C : Int -> Bool} {F B : Int -> Int -> Bool} (h : TOk t n C F B) {r : Int × List Int} (h0 : 0 <= r.1) (h1 : r.1 < (n : Int)) : TOk t n C (addF C F r) B := by
 refine ⟨h.c, fun x i e => ?_, fun x i e => ?_, h.b1, h.b2⟩
 ·unfold Fi.addF at e
  simp only [Bool.or_eq_true, Bool.and_eq_true, decide_eq_true_iff] at e
  rcases e with e | ⟨_, e⟩
  ·exact h.f1 x i e
  ·exact zBR h.f1 _ i e
 ·unfold Fi.addF at e
  simp only [Bool.or_eq_true, Bool.and_eq_true, decide_eq_true_iff] at e
  rcases e with e | ⟨e, _⟩
  ·exact h.f2 x i e
  ·subst e
   exact ⟨h0, h1⟩
noncomputable def zSj (G : Gram) (n : Nat) (hn : zIn G n) : Pass G (Int -> Bool) where
 Inv C := ∀ x, C x = true -> Can G x
 Tr C0 j C b := TriedE G n C0 j C b
 ms C := zCU C n
 Fin C := C = canB G
 zero _ h := zHq h
 inv _ _ _ _ h := h.snd
 yes _ _ _ h := h.yes rfl
 fin _ _ _ h hj := h.all hj
noncomputable def zSk (G : Gram) (n : Nat) : Pass G (Int -> Int -> Bool) where
 Inv F := Snd G (canB G) F /\ Leaf G F
 Tr F0 j F b := TriedG G n F0 j F b
 ms F := zBc F (G.terms.length + 1) n
 Fin F := F = fstB G
 zero _ h := zHr h.1 h.2
 inv _ _ _ _ h := ⟨h.snd, h.leaf⟩
 yes _ _ _ h := h.yes rfl
 fin _ _ _ h hj := h.all hj
noncomputable def zSi (G : Gram) (n : Nat) : Pass G (Int -> Int -> Bool) where
 Inv B := BSnd G B /\ B G.start 0 = true
 Tr B0 j B b := TriedB G n (canB G) (fstB G) B0 j 0 B b
 ms B := zBc B (G.terms.length + 1) n
 Fin B := B = folB G
 zero _ h := zEN h.1 h.2
 inv _ _ _ _ h := ⟨h.snd, h.start⟩
 yes _ _ _ h := h.yes rfl
 fin _ _ _ h hj := zO4 (h.all (zLA G) hj)
def Sts (P D : Ix -> Nat) (p q1 q2 t n : Nat) (C : Int -> Bool) (F B : Int -> Int -> Bool) (w : World) : Prop := TOk t n C F B /\ SAt (Iab t n n) P D p q1 q2 t n (tv C F B no0) w
theorem Sts.went {P D : Ix -> Nat} {p q1 q2 t n : Nat} {C : Int -> Bool} {F B : Int -> Int -> Bool} {w w' : World} (h : Sts P D p q1 q2 t n C F B w) (hb : Below w.heap.size w w') : Sts P D p q1 q2 t n C F B w' := ⟨h.1, h.2.went hb⟩
theorem zCw {G : Gram} (h : Sml G) {j : Nat} (hj : j < G.rules.length) {c : Nat} (hc : G.rules[j].2.length <= c) : LOk G.rules[j].2 c := by
 have hm := List.getElem_mem hj
 refine ⟨fun x hx => ?_, by have := h.w _ hm; omega, hc⟩
 have h1 := zOS h.known hm hx
 have e : top G = G.terms.length + G.nons.length := rfl
 have := h.t
 have := h.n
 omega
theorem zJe (p : Nat) (W0 w : World) (h : Sh) (G : Gram) (k : GAt h G W0) (hs : Sml G) (hb0 : Below W0.heap.size W0 w) {P D : Ix -> Nat} {q1 q2 : Nat} (hD : ∀ k, Iab G.terms.length (top G + 1) (top G + 1) k -> W0.heap.size <= D k)
  (hS : Sts P D p q1 q2 G.terms.length (top G + 1) zCJ (zBC G) (zBW G) w) :
  Calls Tryz.prog 85 #[.slice h.a3 G.rules.length h.c3, .func (.func 86) #[.pointer (some ⟨p, 0, none⟩)] #[]] w
   (fun e w' => ∃ v, e = .returned v /\ Sts P D p q1 q2 G.terms.length (top G + 1) (canB G) (zBC G) (zBW G) w' /\ Sep.Fr (Ds (Iab G.terms.length (top G + 1) (top G + 1)) D) w w') := by
 refine (zOb p W0 w h G k (zSj G (top G + 1) (zBs hs.known)) (fun C w => Sts P D p q1 q2 G.terms.length (top G + 1) C (zBC G) (zBW G) w) (Ds (Iab G.terms.length (top G + 1) (top G + 1)) D) zCJ hs.r hb0 (fun b ⟨k, hk, e⟩ => e ▸ hD k hk) (fun T w1 w2 h hb => h.went hb) ?_ hS (zMS G)).mono ?_
 ·intro C0 C j b0 w1 ra rc hj hst htr hb hrd hrc
  have hl := zBs hs.known _ (List.getElem_mem hj)
  have hlk := zCw hs hj hrc
  obtain ⟨s, hsn⟩ : ∃ s : Nat, G.rules[j].1 = (s : Int) := ⟨G.rules[j].1.toNat, by omega⟩
  have := zPN w1 hst.2 hst.1 s (by omega) G.rules[j].2 ra rc (Sep.Reads.below hrd hb (Nat.le_refl _)) hlk
  rw [← hsn] at this
  refine this.mono ?_
  rintro e w' ⟨b, rfl, hbb, hs1, hf⟩
  exact ⟨b, addC C G.rules[j], rfl, htr.step (zBs hs.known) hj hbb, ⟨⟨zIa hst.1.c hl.1 hl.2, hst.1.f1, hst.1.f2, hst.1.b1, hst.1.b2⟩, hs1⟩, hf⟩
 ·rintro e w' ⟨v, C, rfl, hfin, hst, hf⟩
  have e : C = canB G := hfin
  subst e
  exact ⟨v, rfl, hst, hf⟩
theorem zJf (p : Nat) (W0 w : World) (h : Sh) (G : Gram) (k : GAt h G W0) (hs : Sml G) (hb0 : Below W0.heap.size W0 w) {P D : Ix -> Nat} {q1 q2 : Nat} (hD : ∀ k, Iab G.terms.length (top G + 1) (top G + 1) k -> W0.heap.size <= D k)
  (hS : Sts P D p q1 q2 G.terms.length (top G + 1) (canB G) (zBC G) (zBW G) w) :
  Calls Tryz.prog 85 #[.slice h.a3 G.rules.length h.c3, .func (.func 87) #[.pointer (some ⟨p, 0, none⟩)] #[]] w
   (fun e w' => ∃ v, e = .returned v /\ Sts P D p q1 q2 G.terms.length (top G + 1) (canB G) (fstB G) (zBW G) w' /\ Sep.Fr (Ds (Iab G.terms.length (top G + 1) (top G + 1)) D) w w') := by
 refine (zOc p W0 w h G k (zSk G (top G + 1)) (fun F w => Sts P D p q1 q2 G.terms.length (top G + 1) (canB G) F (zBW G) w) (Ds (Iab G.terms.length (top G + 1) (top G + 1)) D) (zBC G) hs.r hb0 (fun b ⟨k, hk, e⟩ => e ▸ hD k hk) (fun T w1 w2 h hb => h.went hb) ?_ hS ⟨zSq G, zRd G⟩).mono ?_
 ·intro F0 F j b0 w1 ra rc hj hst htr hb hrd hrc
  have hl := zBs hs.known _ (List.getElem_mem hj)
  have hlk := zCw hs hj hrc
  obtain ⟨s, hsn⟩ : ∃ s : Nat, G.rules[j].1 = (s : Int) := ⟨G.rules[j].1.toNat, by omega⟩
  have := zPO W0 w1 hst.2 hst.1 hb hD s (by omega) G.rules[j].2 ra rc hrd hlk
  rw [← hsn] at this
  refine this.mono ?_
  rintro e w' ⟨b, rfl, hbb, hs1, hf⟩
  exact ⟨b, addF (canB G) F G.rules[j], rfl, htr.step (zBs hs.known) hj hbb, ⟨hst.1.addF hl.1 hl.2, hs1⟩, hf⟩
 ·rintro e w' ⟨v, F, rfl, hfin, hst, hf⟩
  have e : F = fstB G := hfin
  subst e
  exact ⟨v, rfl, hst, hf⟩
theorem zJd (p : Nat) (W0 w : World) (h : Sh) (G : Gram) (k : GAt h G W0) (hs : Sml G) (hb0 : Below W0.heap.size W0 w) {P D : Ix -> Nat} {q1 q2 : Nat} (hD : ∀ k, Iab G.terms.length (top G + 1) (top G + 1) k -> W0.heap.size <= D k)
  (hS : Sts P D p q1 q2 G.terms.length (top G + 1) (canB G) (fstB G) (zBW G) w) :
  Calls Tryz.prog 85 #[.slice h.a3 G.rules.length h.c3, .func (.func 88) #[.pointer (some ⟨p, 0, none⟩)] #[]] w
   (fun e w' => ∃ v, e = .returned v /\ Sts P D p q1 q2 G.terms.length (top G + 1) (canB G) (fstB G) (folB G) w' /\ Sep.Fr (Ds (Iab G.terms.length (top G + 1) (top G + 1)) D) w w') := by
 refine (zOa p W0 w h G k (zSi G (top G + 1)) (fun B w => Sts P D p q1 q2 G.terms.length (top G + 1) (canB G) (fstB G) B w) (Ds (Iab G.terms.length (top G + 1) (top G + 1)) D) (zBW G) hs.r hb0 (fun b ⟨k, hk, e⟩ => e ▸ hD k hk) (fun T w1 w2 h hb => h.went hb) ?_ hS (zPW G)).mono ?_
 ·intro B0 B j b0 w1 ra rc hj hst htr hb hrd hrc
  have hl := zAM.1 (zDc hs.known (List.getElem_mem hj))
  have e2 : top G = G.terms.length + G.nons.length := rfl
  have hlk := zCw hs hj hrc
  obtain ⟨s, hsn⟩ : ∃ s : Nat, G.rules[j].1 = (s : Int) := ⟨G.rules[j].1.toNat, by omega⟩
  have := zPM W0 w1 hst.2 hst.1 hb hD rfl rfl j hj b0 htr s G.rules[j].2 (by rw [← hsn]) (by omega) ra rc hrd hlk
  rw [← hsn] at this
  refine this.mono ?_
  rintro e w' ⟨b, B', rfl, ht, hok, hs1, hf⟩
  exact ⟨b, B', rfl, ht, ⟨hok, hs1⟩, hf⟩
 ·rintro e w' ⟨v, B, rfl, hfin, hst, hf⟩
  have e : B = folB G := hfin
  subst e
  exact ⟨v, rfl, hst, hf⟩
noncomputable def nlB (G : Gram) : Bool := !decide (checkN G = 0)
noncomputable def ansC (G : Gram) : Int -> Bool := if checkN G = 0 then canB G else fun _ => false
noncomputable def ansF (G : Gram) : Int -> Int -> Bool := if checkN G = 0 then fstB G else fun _ _ => false
noncomputable def ansB (G : Gram) : Int -> Int -> Bool := if checkN G = 0 then folB G else fun _ _ => false
def zSK (G : Gram) (w : World) (e : Ending) (w' : World) : Prop :=
 ∃ v P D, e = .returned v /\ VS (nlB G) (Iab G.terms.length (top G + 1) (top G + 1)) P D v G.terms.length (top G + 1) (ansC G) (ansF G) (ansB G) no0 w' /\ (nlB G = false -> TOk G.terms.length (top G + 1) (ansC G) (ansF G) (ansB G)) /\ Below w.heap.size w w'
theorem zGj (h : Sh) (G : Gram) (w : World) (k : GAt h G w) :
  Calls Tryz.prog 52 #[gv h G] w (zSK G w) := by
 obtain ⟨a1, c1, a2, c2, a3, c3⟩ := h
 have hmf : ∀ (fn : Fn) (first cap : Array Value) (w : World), (Instr.makeFunc fn first cap).run Tryz.prog w = .ok (.func fn first cap) w := fun _ _ _ _ => rfl
 have X := zSt (Bx.start ⟨a1, c1, a2, c2, a3, c3⟩ G w 25)
 have C := zSt (fun w1 (b : Below w.heap.size w w1) => zBM ⟨a1, c1, a2, c2, a3, c3⟩ G w1 (k.went b))
 obtain ⟨x0, x1, x2, x3⟩ := X.out.box
 try dsimp only at x0 x1 x2 x3
 by_cases hc : checkN G = 0
 ·have SM := zSt (zBm hc)
  have ST := zSt (fun w1 (b : Below w.heap.size w w1) => zMK ⟨a1, c1, a2, c2, a3, c3⟩ G w1 (k.went b) SM.out)
  have SE := zSt (fun p w1 (b : Below w.heap.size w w1) P D q1 q2 hD hS => zJe p w w1 ⟨a1, c1, a2, c2, a3, c3⟩ G k SM.out b (P := P) (D := D) (q1 := q1) (q2 := q2) hD hS)
  have SF := zSt (fun p w1 (b : Below w.heap.size w w1) P D q1 q2 hD hS => zJf p w w1 ⟨a1, c1, a2, c2, a3, c3⟩ G k SM.out b (P := P) (D := D) (q1 := q1) (q2 := q2) hD hS)
  have SB := zSt (fun p w1 (b : Below w.heap.size w w1) P D q1 q2 hD hS => zJd p w w1 ⟨a1, c1, a2, c2, a3, c3⟩ G k SM.out b (P := P) (D := D) (q1 := q1) (q2 := q2) hD hS)
  have AN := zSt (show nlB G = false /\ ansC G = canB G /\ ansF G = fstB G /\ ansB G = folB G from ⟨by unfold nlB; rw [decide_eq_true hc]; rfl, by unfold ansC; rw [if_pos hc], by unfold ansF; rw [if_pos hc], by unfold ansB; rw [if_pos hc]⟩)
  have T0 := zSt (tok0 SM.out.known (C := zCJ) (fun x h => by cases h))
  rw [hc] at C
  dsimp only at SE SF SB
  clear k hc
  unfold gv
  dsimp only
  go_enter Tryz.func52, Tryz.ntmps52
  go_wp2_with (first
   | (go_at_call 39; refine (C.out _ X.out.below).mono ?_; rintro e w1 ⟨rfl, hb⟩; have X1 := zSt (X.out.went hb); clear hb x0 x1 x2 x3; obtain ⟨x0, x1, x2, x3⟩ := X1.out.box; try dsimp only at x0 x1 x2 x3)
   | (go_at_call 84; refine (ST.out _ X1.out.below).mono ?_; rintro e w2 ⟨P, D, p, q1, q2, rfl, hs2, hd2, hb⟩; have X2 := zSt (X1.out.went hb); have hsz := X1.out.size; have DD := zSt (show ∀ k, Iab G.terms.length (top G + 1) (top G + 1) k -> w.heap.size < D k from fun k hk => Nat.lt_of_lt_of_le (by omega) (hd2 k hk)); have S2 := zSt (show Sts P D p q1 q2 G.terms.length (top G + 1) zCJ (zBC G) (zBW G) w2 from ⟨T0.out, hs2⟩); clear hb hs2 hd2 hsz x0 x1 x2 x3; obtain ⟨x0, x1, x2, x3⟩ := X2.out.box; try dsimp only at x0 x1 x2 x3)
   | (go_at_call 85; (with_reducible refine (SE.out _ _ X2.out.below _ _ _ _ (fun k hk => Nat.le_of_lt (DD.out k hk)) S2.out).mono ?_); rintro e w3 ⟨v3, rfl, hs3, hf3⟩; have S3 := zSt hs3; have X3 := zSt (zEW X2.out hf3 (fun b ⟨k, hk, e⟩ => e ▸ DD.out k hk)); clear hs3 hf3 x0 x1 x2 x3; obtain ⟨x0, x1, x2, x3⟩ := X3.out.box; try dsimp only at x0 x1 x2 x3)
   | (go_at_call 85; (with_reducible refine (SF.out _ _ X3.out.below _ _ _ _ (fun k hk => Nat.le_of_lt (DD.out k hk)) S3.out).mono ?_); rintro e w4 ⟨v4, rfl, hs4, hf4⟩; have S4 := zSt hs4; have X4 := zSt (zEW X3.out hf4 (fun b ⟨k, hk, e⟩ => e ▸ DD.out k hk)); clear hs4 hf4 x0 x1 x2 x3; obtain ⟨x0, x1, x2, x3⟩ := X4.out.box; try dsimp only at x0 x1 x2 x3)
   | (go_at_call 85; (with_reducible refine (SB.out _ _ X4.out.below _ _ _ _ (fun k hk => Nat.le_of_lt (DD.out k hk)) S4.out).mono ?_); rintro e w5 ⟨v5, rfl, hs5, hf5⟩; have S5 := zSt hs5; have X5 := zSt (zEW X4.out hf5 (fun b ⟨k, hk, e⟩ => e ▸ DD.out k hk)); clear hs5 hf5 x0 x1 x2 x3))
  go_ret
  refine ⟨_, P, D, rfl, .inr ⟨AN.out.1, p, q1, q2, rfl, ?_⟩, fun _ => ?_, X5.out.below⟩
  ·rw [AN.out.2.1, AN.out.2.2.1, AN.out.2.2.2]
   exact S5.out.2
  ·rw [AN.out.2.1, AN.out.2.2.1, AN.out.2.2.2]
   exact S5.out.1
 ·have AN := zSt (show nlB G = true /\ ansC G = (fun _ => false) /\ ansF G = (fun _ _ => false) /\ ansB G = (fun _ _ => false) from ⟨by unfold nlB; rw [decide_eq_false hc]; rfl, by unfold ansC; rw [if_neg hc], by unfold ansF; rw [if_neg hc], by unfold ansB; rw [if_neg hc]⟩)
  have hb : (checkN G != 0) = true := by simpa using hc
  clear k hc
  generalize checkN G = ck at *
  unfold gv
  dsimp only
  go_enter Tryz.func52, Tryz.ntmps52
  go_wp2_with (go_at_call 39; refine (C.out _ X.out.below).mono ?_; rintro e w1 ⟨rfl, hb⟩; have X1 := zSt (X.out.went hb); clear hb)
  go_ret
  exact ⟨_, fun _ => 0, fun _ => 0, rfl, .inl ⟨AN.out.1, rfl, AN.out.2⟩, (fun h => by rw [AN.out.1] at h; cases h), X1.out.below⟩
end Fi
namespace Fr
open Gr
open Fi
open Bt (Keeps)
open Rw (Bk)
structure RFam (I : Ix -> Prop) (D : Ix -> Nat) (M : Ix -> Nat) (V : Ix -> Nat -> Bool) (w : World) : Prop where
 at_ : ∀ k, I k -> BRow (D k) (M k) (V k) w
 inj : ∀ j k, I j -> I k -> D j = D k -> j = k
theorem RFam.went {I : Ix -> Prop} {D M : Ix -> Nat} {V : Ix -> Nat -> Bool} {w w' : World} (h : RFam I D M V w) (hb : Below w.heap.size w w') : RFam I D M V w' := ⟨fun k hk => (h.at_ k hk).went hb, h.inj⟩
theorem RFam.wrote {I : Ix -> Prop} {D M : Ix -> Nat} {V : Ix -> Nat -> Bool} {w w' : World} (h : RFam I D M V w) {k : Ix} (hk : I k) {B : Nat -> Bool} (hs : BRow (D k) (M k) B w') (hK : Keeps (D k) w w') : RFam I D M (upd V k B) w' := by
 refine ⟨fun j hj => ?_, h.inj⟩
 by_cases e : j = k
 ·subst e
  rw [zBD]
  exact hs
 ·rw [zAR _ _ e]
  exact (h.at_ j hj).keeps hK (fun e2 => e (h.inj j k hj hk e2))
def Jn (n : Nat) : Ix -> Prop
 | .e => True
 | .f s => s < n
 | .g s => s < n
 | .o => False
structure RAt (D : Ix -> Nat) (p q1 q2 k1 k2 n : Nat) (h : Sh) (G : Gram) (V : Ix -> Nat -> Bool) (w : World) : Prop where
 box : Bk p #[.slice h.a1 G.terms.length h.c1, .slice h.a2 G.nons.length h.c2, .slice h.a3 G.rules.length h.c3, .int .i64 G.start, .slice (some ⟨D .e, 0, none⟩) n n, .slice (some ⟨q1, 0, none⟩) n k1, .slice (some ⟨q2, 0, none⟩) n k2] 84 w
 begins : ∀ s, s < n -> w.cell? ⟨q1, s, none⟩ = some (.slice (some ⟨D (.f s), 0, none⟩) (G.terms.length + 1) (G.terms.length + 1))
 behind : ∀ s, s < n -> w.cell? ⟨q2, s, none⟩ = some (.slice (some ⟨D (.g s), 0, none⟩) (G.terms.length + 1) (G.terms.length + 1))
 fam : RFam (Jn n) D (rm G.terms.length n) V w
 off : ∀ k, Jn n k -> D k ≠ p /\ D k ≠ q1 /\ D k ≠ q2
 tn : G.terms.length < n
 n4 : n <= 4000
theorem RAt.went {D : Ix -> Nat} {p q1 q2 k1 k2 n : Nat} {h : Sh} {G : Gram} {V : Ix -> Nat -> Bool} {w w' : World} (k : RAt D p q1 q2 k1 k2 n h G V w) (hb : Below w.heap.size w w') : RAt D p q1 q2 k1 k2 n h G V w' :=
 ⟨k.box.went hb, fun s hs => cell_later hb (k.begins s hs), fun s hs => cell_later hb (k.behind s hs), k.fam.went hb, k.off, k.tn, k.n4⟩
theorem RAt.wrote {D : Ix -> Nat} {p q1 q2 k1 k2 n : Nat} {h : Sh} {G : Gram} {V : Ix -> Nat -> Bool} {w w' : World} (l : RAt D p q1 q2 k1 k2 n h G V w) {k : Ix} (hk : Jn n k) {B : Nat -> Bool} (hs : BRow (D k) (rm G.terms.length n k) B w') (hK : Keeps (D k) w w') : RAt D p q1 q2 k1 k2 n h G (upd V k B) w' := by
 have ho := l.off k hk
 have hF : Sep.Fr (fun b => b = D k) w w' := ⟨hK.os, hK.tape, hK.output, hK.size, fun i hi hb => hK.block i hi hb⟩
 exact ⟨l.box.fr hF (fun e => ho.1 e.symm), fun s hs => hF.cell (l.begins s hs) (fun e => ho.2.1 e.symm), fun s hs => hF.cell (l.behind s hs) (fun e => ho.2.2 e.symm), l.fam.wrote hk hs hK, l.off, l.tn, l.n4⟩
theorem RAt.eq {D : Ix -> Nat} {p q1 q2 k1 k2 n : Nat} {h : Sh} {G : Gram} {V U : Ix -> Nat -> Bool} {w : World} (k : RAt D p q1 q2 k1 k2 n h G V w) (e : V = U) : RAt D p q1 q2 k1 k2 n h G U w := e ▸ k
theorem seven {q : Nat} {a b c d e f g : Value} {T : TypeId} {w : World} (h : Bk q #[a, b, c, d, e, f, g] T w) : w.cell? ⟨q, 0, none⟩ = some a /\ w.cell? ⟨q, 1, none⟩ = some b /\ w.cell? ⟨q, 2, none⟩ = some c /\ w.cell? ⟨q, 3, none⟩ = some d /\ w.cell? ⟨q, 4, none⟩ = some e /\ w.cell? ⟨q, 5, none⟩ = some f /\ w.cell? ⟨q, 6, none⟩ = some g :=
 ⟨h.cell rfl, h.cell rfl, h.cell rfl, h.cell rfl, h.cell rfl, h.cell rfl, h.cell rfl⟩
theorem zRY (x : Int) (w : World) : Calls Tryz.prog 36 #[.pointer none, .int .i64 x] w (fun e w' => e = .returned (.bool false) /\ w = w') := by
 go_enter Tryz.func36, Tryz.ntmps36
 go_wp2
 go_ret
 exact ⟨rfl, rfl⟩
theorem zRW {D : Ix -> Nat} {p q1 q2 k1 k2 n : Nat} {h : Sh} {G : Gram} {V : Ix -> Nat -> Bool} (w : World) (k : RAt D p q1 q2 k1 k2 n h G V w) (x : Int) :
  Calls Tryz.prog 36 #[.pointer (some ⟨p, 0, none⟩), .int .i64 x] w (fun e w' => e = .returned (.bool (symB n x)) /\ w = w') := by
 obtain ⟨x0, x1, x2, x3, x4, x5, x6⟩ := seven k.box
 have h4 := k.n4
 clear k
 by_cases h0 : 0 <= x
 ·by_cases h1 : x < (n : Int)
  ·have E := zSt (show symB n x = true from decide_eq_true ⟨h0, h1⟩)
   have d0 : decide (0 <= x) = true := decide_eq_true h0
   have d1 : decide (x < (n : Int)) = true := decide_eq_true h1
   go_enter Tryz.func36, Tryz.ntmps36
   go_wp2
   go_ret
   exact ⟨by rw [E.out]; rfl, rfl⟩
  ·have E := zSt (show symB n x = false from decide_eq_false fun h => h1 h.2)
   have d0 : decide (0 <= x) = true := decide_eq_true h0
   have d1 : decide (x < (n : Int)) = false := decide_eq_false h1
   go_enter Tryz.func36, Tryz.ntmps36
   go_wp2
   go_ret
   exact ⟨by rw [E.out]; rfl, rfl⟩
 ·have E := zSt (show symB n x = false from decide_eq_false fun h => h0 h.1)
  have d0 : decide (0 <= x) = false := decide_eq_false h0
  go_enter Tryz.func36, Tryz.ntmps36
  go_wp2
  go_ret
  exact ⟨by rw [E.out]; rfl, rfl⟩
def zJt (m : Nat) (C : Int -> Bool) (F : Int -> Int -> Bool) (L : List Int) (w : World) (e : Ending) (w' : World) : Prop :=
 ∃ d, e = .returned (.tuple #[.slice (some ⟨d, 0, none⟩) m m, .bool (allC C L)]) /\ BRow d m (rw' (zAP C F L)) w' /\ w.heap.size <= d /\ Below w.heap.size w w'
def zR8 (m d : Nat) (C : Int -> Bool) (F : Int -> Int -> Bool) (L : List Int) (W : World) (i : Value) (w : World) : Prop :=
 ∃ k : Nat, k <= L.length /\ i = .int .i64 k /\ (∀ j (h : j < L.length), j < k -> C L[j] = true) /\ BRow d m (jn (fun _ => false) F (L.take k)) w /\ Below W.heap.size W w
theorem zHN {C : Int -> Bool} {F : Int -> Int -> Bool} {L : List Int} : jn (fun _ => false) F (L.take (zA9 C L)) = rw' (zAP C F L) := by
 funext i
 unfold jn rw'
 rw [zBP]
 rfl
theorem zF7 {D : Ix -> Nat} {p q1 q2 k1 k2 n : Nat} {h : Sh} {G : Gram} {C : Int -> Bool} {F B : Int -> Int -> Bool} (w : World) (k : RAt D p q1 q2 k1 k2 n h G (tv C F B no0) w) (hT : TOk G.terms.length n C F B) (L : List Int) (a : Option Addr) (c : Nat) (hR : Sep.Reads a (ivs L) w) (hL : LOk L c) :
  Calls Tryz.prog 33 #[.pointer (some ⟨p, 0, none⟩), .slice a L.length c] w (zJt (G.terms.length + 1) C F L w) := by
 have H := zSt (fun w1 (b : Below w.heap.size w w1) => k.went b)
 have IN := zSt (fun x w1 (b : Below w.heap.size w w1) => zRW w1 (k.went b) x)
 have RR := zSt (fun w1 (b : Below w.heap.size w w1) => Sep.Reads.below hR b (Nat.le_refl _))
 have TO := zSt hT
 have h4 := k.n4
 have htn := k.tn
 have hl := hL.len
 have hmk := fun w => show (Instr.makeSlice 65 (.int .i64 ((G.terms.length : Int) + 1)) (.int .i64 ((G.terms.length : Int) + 1))).run Tryz.prog w = _ from zDI (G.terms.length + 1) (by omega) w
 obtain ⟨x0, x1, x2, x3, x4, x5, x6⟩ := seven k.box
 have B0 := zSt (show BRow w.heap.size (G.terms.length + 1) (jn (fun _ => false) F (L.take 0)) (w.alloc (.cells (madeCells #[.bool false] (G.terms.length + 1)) 4)) by rw [List.take_zero, zO7]; exact zFK _ w)
 clear k hT hR hL
 go_enter Tryz.func33, Tryz.ntmps33
 go_wp2
 clear hmk x0 x1 x2 x3 x4 x5 x6
 go_loopw [7] (fun i wr => zR8 (G.terms.length + 1) w.heap.size C F L w i wr) (fun i _ => L.length - (intOf i).toNat)
 case atStart => exact ⟨0, Nat.zero_le _, rfl, (fun j _ hj => absurd hj (by omega)), B0.out, boxed _ _⟩
 case round =>
  clear B0
  obtain ⟨k, hk, rfl, hP, hR, hb⟩ := hrel
  have B1 := zSt hb
  have PP := zSt hP
  have R1 := zSt hR
  clear hb hP hR
  by_cases hlt : k < L.length
  ·obtain ⟨b, o, rfl, hc0⟩ := zBf (RR.out w (.refl _ _)) hlt
   have hc := cell_later B1.out hc0
   have hbw : b < w.heap.size := World.block_lt_of_cell? w ⟨b, o + k, none⟩ hc0
   have HC0 := zSt hc0
   clear hc0
   have IC := zSt (IN.out L[k] _ B1.out)
   have HH := zSt (fun (hz : C L[k] = false) => zD0 hlt PP.out hz)
   have TK := zSt (zC8 hlt)
   have P2 := zSt (fun (hz : C L[k] = true) => show ∀ j (h : j < L.length), j < k + 1 -> C L[j] = true from fun j h hj => by
    by_cases e : j = k
    ·subst e
     exact hz
    ·exact PP.out j h (by omega))
   generalize L[k] = x at *
   by_cases hx : 0 <= x /\ x < (n : Int)
   ·have e : symB n x = true := decide_eq_true hx
    obtain ⟨s, rfl⟩ : ∃ s : Nat, x = (s : Int) := ⟨x.toNat, by omega⟩
    have hs : s < n := by omega
    rw [e] at IC
    clear e hx
    have HW := H.out _ B1.out
    obtain ⟨x0, x1, x2, x3, x4, x5, x6⟩ := seven HW.box
    have z1 := HW.begins s hs
    have z2 := (HW.fam.at_ .e trivial).at_ s hs
    have hlo := (H.out w (.refl _ _)).fam.at_ (.f s) hs
    have PC := zSt (zAk w.heap.size (D (.f s)) (G.terms.length + 1) (G.terms.length + 1) (G.terms.length + 1) _ (rw' (F (s : Int))) wr R1.out (HW.fam.at_ (.f s) hs) (by have := hlo.lt; omega) (fun i hi => by have := (TO.out.f1 _ _ hi).2; omega) (by omega))
    have JS := zSt (show (fun i => jn (fun _ => false) F (L.take k) i || rw' (F (s : Int)) i) = jn (fun _ => false) F (L.take (k + 1)) from by
     rw [TK.out]
     funext i
     unfold jn rw'
     rw [List.any_append]
     simp)
    clear HW hlo
    have z2' : wr.cell? ⟨D .e, s, none⟩ = some (.bool (C (s : Int))) := z2
    have hbd := drawn wr
    clear z2
    have i0 : (0 : Int) <= (s : Int) := by omega
    have i1 : (s : Int) < (n : Int) := by omega
    have k0 : (0 : Int) <= (k : Int) := by omega
    have k1' : (k : Int) < (L.length : Int) := by omega
    have hbnd : w.heap.size < wr.heap.size := R1.out.lt
    have hne1 : p ≠ w.heap.size := by have := (H.out w (.refl _ _)).box.lt; omega
    have hq1 : q1 < w.heap.size := World.block_lt_of_cell? w ⟨q1, s, none⟩ ((H.out w (.refl _ _)).begins s hs)
    have HQ := zSt (show ∀ w', Sep.Fr (fun i => i = w.heap.size) wr w' -> w'.cell? ⟨p, 5, none⟩ = some (.slice (some ⟨q1, 0, none⟩) n k1) /\ w'.cell? ⟨b, o + k, none⟩ = some (.int .i64 (s : Int)) /\ w'.cell? ⟨q1, s, none⟩ = some (.slice (some ⟨D (.f s), 0, none⟩) (G.terms.length + 1) (G.terms.length + 1)) /\ Sep.Fr (fun i => i = w.heap.size) wr w' from
     fun w' hF => ⟨hF.cell x5 hne1, hF.cell hc (show ¬ b = w.heap.size by omega), hF.cell z1 (show ¬ q1 = w.heap.size by omega), hF⟩)
    have PC2 := zSt (fun w1 (bl : Below wr.heap.size wr w1) => zAk w.heap.size (D (.f s)) (G.terms.length + 1) (G.terms.length + 1) (G.terms.length + 1) _ (rw' (F (s : Int))) w1 (R1.out.went bl) ((H.out _ (Gr.step B1.out bl)).fam.at_ (.f s) hs) (by have := (((H.out w (.refl _ _)).fam.at_ (.f s) hs)).lt; omega) (fun i hi => by have := (TO.out.f1 _ _ hi).2; omega) (by omega))
    have hf0 : Sep.Fr (fun i => i = w.heap.size) wr wr.drew := (Sep.Fr.refl _ _).drew
    clear PC x0 x1 x2 x3 x4 x6 z2'
    go_wp2_with (go_at_call 36; refine IC.out.mono ?_; rintro e w1 ⟨rfl, rfl⟩)
    clear x5 z1
    go_region_held3 (fun w' => w'.cell? ⟨p, 5, none⟩ = some (.slice (some ⟨q1, 0, none⟩) n k1) /\ w'.cell? ⟨b, o + k, none⟩ = some (.int .i64 (s : Int)) /\ w'.cell? ⟨q1, s, none⟩ = some (.slice (some ⟨D (.f s), 0, none⟩) (G.terms.length + 1) (G.terms.length + 1)) /\ Sep.Fr (fun i => i = w.heap.size) wr w')
     (exact HQ.out _ (by assumption))
     (first
      | (go_at_call 34; (with_reducible refine (PC2.out _ hbd).mono ?_); rintro e w2 ⟨b1, rfl, _, hr2, hk2⟩; have hF2 : Sep.Fr (fun i => i = w.heap.size) wr w2 := hf0.trans ⟨hk2.os, hk2.tape, hk2.output, hk2.size, fun i hi hb => hk2.block i hi hb⟩ (fun _ h => .inl h); have B2 := zSt (zCd (Gr.step B1.out hbd) (Nat.le_refl _) hk2); have R2 := zSt hr2; clear hr2 hk2)
      | fail)
    rw [JS.out] at R2
    have HW2 := H.out _ B2.out
    obtain ⟨x0, x1, x2, x3, x4, x5, x6⟩ := seven HW2.box
    have z2 : w2.cell? ⟨D .e, s, none⟩ = some (.bool (C (s : Int))) := (HW2.fam.at_ .e trivial).at_ s hs
    have hc := cell_later B2.out HC0.out
    clear HW2 R1 B1 HQ PC2 hF2 hf0 hbd
    cases hz : C (s : Int) with
    | true =>
     have P3 := zSt (P2.out hz)
     rw [hz] at z2
     clear hz P2 HH
     go_wp2_with fail
     go_quiet (fail)
     have B3 := zSt (Gr.step B2.out (zA1 _ nq))
     have R3 := zSt (R2.out.went (zA1 _ nq))
     go_wp2
     go_roundw
     case rel => exact ⟨k + 1, by omega, by go_num, P3.out, R3.out, B3.out⟩
     case measure => simp [intOf]; omega
    | false =>
     obtain ⟨h1, h2⟩ := HH.out hz
     have H1 := zSt h1
     have H2 := zSt h2
     rw [hz] at z2
     clear hz P2 HH h1 h2
     go_wp2_with fail
     go_quiet (fail)
     have B3 := zSt (Gr.step B2.out (zA1 _ nq))
     have R3 := zSt (R2.out.went (zA1 _ nq))
     go_wp2
     go_ret2
     refine ⟨w.heap.size, ?_, ?_, Nat.le_refl _, B3.out⟩
     ·rw [H2.out]
      rfl
     ·have := R3.out
      rw [← H1.out, zHN] at this
      exact this
   ·have e : symB n x = false := decide_eq_false hx
    have hz : C x = false := by
     cases hz : C x with
     | false => rfl
     | true => exact absurd (TO.out.c x hz) hx
    obtain ⟨h1, h2⟩ := HH.out hz
    have H1 := zSt h1
    have H2 := zSt h2
    have JS := zSt (show jn (fun _ => false) F (L.take k) = jn (fun _ => false) F (L.take (k + 1)) from by
     rw [TK.out]
     exact zP5 _ fun t => by
      cases hf : F x t with
      | false => rfl
      | true => exact absurd (TO.out.f2 x t hf) hx)
    rw [e] at IC
    clear e hx hz h1 h2
    go_wp2_with (go_at_call 36; refine IC.out.mono ?_; rintro e w1 ⟨rfl, rfl⟩)
    go_ret2
    refine ⟨w.heap.size, ?_, ?_, Nat.le_refl _, B1.out⟩
    ·rw [H2.out]
     rfl
    ·have := R1.out
     rw [JS.out, ← H1.out, zHN] at this
     exact this
  ·obtain ⟨h1, h2⟩ := zDz (C := C) (l := L) fun j hj => PP.out j hj (by omega)
   have H1 := zSt h1
   have H2 := zSt h2
   have E : k = L.length := by omega
   subst E
   clear h1 h2
   go_wp2
   go_ret2
   refine ⟨w.heap.size, ?_, ?_, Nat.le_refl _, B1.out⟩
   ·rw [H2.out]
    rfl
   ·have := R1.out
    rw [← H1.out, zHN] at this
    exact this
end Fr
namespace Fr
open Gr
open Fi
open Rw (zAH)
def rowV (m : Nat) (ds : Nat -> Nat) (i : Nat) : Value := .slice (some ⟨ds i, 0, none⟩) m m
structure Rows (base m k : Nat) (ds : Nat -> Nat) (v : Value) (w : World) : Prop where
 row : w.ownsRow base 65 1 v k ((List.range k).map (rowV m ds))
 each : ∀ i, i < k -> BRow (ds i) m no0 w
 inj : ∀ i j, i < k -> j < k -> ds i = ds j -> i = j
 lo : ∀ i, i < k -> base <= ds i
 off : ∀ i, i < k -> v.ownBlock ≠ some (ds i)
theorem Rows.went {base m k : Nat} {ds : Nat -> Nat} {v : Value} {w w' : World} (h : Rows base m k ds v w) (hb : Below w.heap.size w w') : Rows base m k ds v w' :=
 ⟨Sep.zAE h.row fun g hg => hb.block g (h.row.lt g hg).2, fun i hi => (h.each i hi).went hb, h.inj, h.lo, h.off⟩
theorem zDa : (Tryz.prog.info? 65).map (fun i => (i.zero, i.size, i.bytes)) = some (some (.slice none 0 0), 1, 24) := by kernel_rfl
theorem Rows.snoc {base m k d : Nat} {ds : Nat -> Nat} {v v' : Value} {w w2 : World} (h : Rows base m k ds v w) (hd : d = w.heap.size) (hw : base <= w.heap.size)
  (hO : w2.ownsRow base 65 1 v' (k + 1) ((List.range k).map (rowV m ds) ++ [.slice (some ⟨d, 0, none⟩) m m]))
  (hg : ((w.alloc (.cells (madeCells #[.bool false] m) 4)).alloc (.cells #[.slice (some ⟨d, 0, none⟩) m m] 65)).grownBy w2 v.ownBlock)
  (hl : v'.ownBlock = v.ownBlock \/ v'.ownBlock = some (w.heap.size + 1 + 1)) :
  Rows base m (k + 1) (fun i => if i = k then d else ds i) v' w2 := by
 have hv : ∀ g, v.ownBlock = some g -> g < w.heap.size := fun g hg => (h.row.lt g hg).2
 have hds : ∀ i, i < k -> ds i < w.heap.size := fun i hi => (h.each i hi).lt
 have b2 : Below w.heap.size w ((w.alloc (.cells (madeCells #[.bool false] m) 4)).alloc (.cells #[.slice (some ⟨d, 0, none⟩) m m] 65)) := Gr.step (boxed _ _) (boxed _ _)
 have hs2 := hg.size
 refine ⟨?_, fun i hi => ?_, fun i j hi hj e => ?_, fun i hi => ?_, fun i hi e => ?_⟩
 ·have e : (List.range (k + 1)).map (rowV m fun i => if i = k then d else ds i) = (List.range k).map (rowV m ds) ++ [.slice (some ⟨d, 0, none⟩) m m] := by
   rw [List.range_succ, List.map_append, List.map_singleton]
   congr 1
   ·refine List.map_congr_left fun i hi => ?_
    have := List.mem_range.1 hi
    have hne : ¬ i = k := by omega
    show Value.slice (some ⟨if i = k then d else ds i, 0, none⟩) m m = _
    rw [if_neg hne]
    rfl
   ·show [Value.slice (some ⟨if k = k then d else ds k, 0, none⟩) m m] = _
    rw [if_pos rfl]
  rw [e]
  exact hO
 ·by_cases e : i = k
  ·subst e
   rw [if_pos rfl]
   have B := zFK m w
   rw [← hd] at B
   have B2 := B.went (boxed _ (.cells #[.slice (some ⟨d, 0, none⟩) m m] 65))
   exact B2.block (hg.block d B2.lt fun e => by have := hv d e.symm; omega) hs2
  ·rw [if_neg e]
   have B := (h.each i (by omega)).went b2
   exact B.block (hg.block _ B.lt fun e2 => h.off i (by omega) e2.symm) hs2
 ·have hi2 := hds i
  have hj2 := hds j
  by_cases e1 : i = k
  ·by_cases e2 : j = k
   ·omega
   ·rw [if_pos e1, if_neg e2] at e
    have := hj2 (by omega)
    omega
  ·by_cases e2 : j = k
   ·rw [if_neg e1, if_pos e2] at e
    have := hi2 (by omega)
    omega
   ·rw [if_neg e1, if_neg e2] at e
    exact h.inj i j (by omega) (by omega) e
 ·by_cases e1 : i = k
  ·rw [if_pos e1]
   omega
  ·rw [if_neg e1]
   exact h.lo i (by omega)
 ·rcases hl with h1 | h1
  ·rw [h1] at e
   by_cases e1 : i = k
   ·rw [if_pos e1] at e
    have := hv _ e
    omega
   ·rw [if_neg e1] at e
    exact h.off i (by omega) e
  ·rw [h1] at e
   injection e with e
   by_cases e1 : i = k
   ·rw [if_pos e1] at e
    omega
   ·rw [if_neg e1] at e
    have := hds i (by omega)
    omega
def zPK (n m : Nat) (w : World) (e : Ending) (w' : World) : Prop := ∃ v ds, e = .returned v /\ Rows w.heap.size m n ds v w' /\ Below w.heap.size w w'
def zSO (n m : Nat) (W : World) (v i : Value) (w : World) : Prop :=
 ∃ (k : Nat) (ds : Nat -> Nat), k <= n /\ i = .int .i64 k /\ Rows W.heap.size m k ds v w /\ W.heap.size <= w.heap.size /\ Below W.heap.size W w
theorem zOV (n m : Nat) (w : World) (hn : n <= 4000) (hm : m <= 4000) :
  Calls Tryz.prog 32 #[.int .i64 (n : Int), .int .i64 (m : Int)] w (zPK n m w) := by
 obtain ⟨i0, hi, hz0, hz1, hz2⟩ := info_parts zDa
 have hmk := fun w => zDI m (by omega) w
 go_enter Tryz.func32, Tryz.ntmps32
 go_wp2
 go_loopw [5, 6] (fun v i wr => zSO n m w v i wr) (fun _ i _ => n - (intOf i).toNat)
 case atStart => exact ⟨0, fun _ => 0, Nat.zero_le _, rfl, ⟨World.ownsRow_nil _ _ _ _, (fun i hi => absurd hi (by omega)), (fun i j hi => absurd hi (by omega)), (fun i hi => absurd hi (by omega)), (fun i hi => absurd hi (by omega))⟩, Nat.le_refl _, .refl _ _⟩
 case round =>
  obtain ⟨k, ds, hk, rfl, hR, hsz, hb⟩ := hrel
  have R := zSt hR
  have B := zSt hb
  obtain ⟨va, vc, rfl⟩ := zAH hR.row
  clear hR hb
  by_cases hlt : k < n
  ·have i0' : (0 : Int) <= (k : Int) := by omega
   go_wp2_with (at_builtin; refine Rw.zAL _ rfl _ _ 66 rfl w.heap.size 65 i0 (.slice none 0 0) 1 24 Tryz.underlying66 hi hz0 hz1 hz2 rfl (by decide) _ k _ rfl ((R.out.row.alloc _).alloc _) 0 (.slice (some ⟨wr.heap.size + 1, 0, none⟩) 1 1) 1 [.slice (some ⟨wr.heap.size, 0, none⟩) m m] rfl ?c0 ?c2 ?c3 ?c4 ?c5 ?_)
   case c0 =>
    have := World.ownsRow_lit (base := 0) (e := 65) (size := 1) (wr.alloc (.cells (madeCells #[.bool false] m) 4)) #[.slice (some ⟨wr.heap.size, 0, none⟩) m m] 1 (by omega) (by decide) rfl
    simpa using this
   case c2 => intro u hu; simp at hu; subst hu; rfl
   case c3 => unfold maxLen; omega
   case c4 => omega
   case c5 => simp; omega
   intro v' w2 hown' hgrow hl'
   have R2 := zSt (R.out.snoc rfl hsz hown' hgrow hl')
   have B2 : Hid (Below w.heap.size w w2) := ((B.out.alloc hsz _).alloc (by simp; omega) _).grown hgrow (by simp; omega) (fun q hq => (R.out.row.lt q hq).1)
   have hs2 := B2.out.size
   clear hown' hgrow hl'
   go_wp2
   go_roundw
   case rel => exact ⟨k + 1, _, by omega, by go_num, R2.out, hs2, B2.out⟩
   case measure => simp [intOf]; omega
  ·have hE : k = n := by omega
   subst hE
   go_wp2
   go_ret
   exact ⟨_, ds, rfl, R.out, B.out⟩
