/- A part of the proof. -/
import Derived.Test.YtbcgmiocolpjoaaGreatPk11
import Derived.Test.YtbcgmiocolpjoaaGreatPk22
import Derived.Deep.OwnRows
set_option maxHeartbeats 4000000
set_option maxRecDepth 100000
set_option linter.unusedVariables false
namespace Go.Proofs.YtbcgmiocolpjoaaGreat
open Go.RowKit Go.Maps
namespace Im
open Gr (Gram Sh gv GAt Bx boxed checkN zBC zAB cell_later)
theorem zHi {W w w' : World} {h : Sh} {G : Gram} {S : Nat -> Prop} (k : Bx W h G w) (f : Sep.Fr S w w') (hS : ∀ i, S i -> W.heap.size + 1 <= i) : Bx W h G w' := by
 have hn : ¬ S W.heap.size := fun h => by have := hS _ h; omega
 exact ⟨k.below.trans (f.below (fun i hi => by have := hS i hi; omega) k.below.size), ⟨f.cell k.box.x0 hn, f.cell k.box.x1 hn, f.cell k.box.x2 hn, f.cell k.box.x3 hn⟩⟩
def VTo (G : Gram) (L : List Itm) (j : Nat) (x : Itm) : Prop := ∃ q, ∃ h : q < L.length, q < j /\ x = L[q] /\ zAD G L[q] = true
theorem zOn {G : Gram} {L : List Itm} {x : Itm} : VTo G L 0 x ↔ False := ⟨fun ⟨_, _, h, _⟩ => by omega, False.elim⟩
theorem zN2 {G : Gram} {L : List Itm} {j : Nat} (hj : j < L.length) (hr : zAD G L[j] = true) (x : Itm) : VTo G L j x \/ x = L[j] ↔ VTo G L (j + 1) x := by
 constructor
 ·rintro (⟨q, h1, h2, h3⟩ | e)
  ·exact ⟨q, h1, by omega, h3⟩
  ·exact ⟨j, hj, by omega, e, hr⟩
 ·rintro ⟨q, h1, h2, h3, h4⟩
  by_cases e : q = j
  ·subst e
   exact .inr h3
  ·exact .inl ⟨q, h1, by omega, h3, h4⟩
theorem zMQ {G : Gram} {L : List Itm} {j : Nat} (hj : j < L.length) (hr : ¬ zAD G L[j] = true) (x : Itm) : VTo G L j x ↔ VTo G L (j + 1) x := by
 constructor
 ·rintro ⟨q, h1, h2, h3⟩
  exact ⟨q, h1, by omega, h3⟩
 ·rintro ⟨q, h1, h2, h3, h4⟩
  by_cases e : q = j
  ·subst e
   exact absurd h4 hr
  ·exact ⟨q, h1, by omega, h3, h4⟩
theorem zN1 {G : Gram} {L : List Itm} (x : Itm) : VTo G L L.length x ↔ x ∈ L /\ zAD G x = true := by
 constructor
 ·rintro ⟨q, h1, _, h3, h4⟩
  subst h3
  exact ⟨List.getElem_mem h1, h4⟩
 ·rintro ⟨h1, h2⟩
  obtain ⟨q, hq, rfl⟩ := List.getElem_of_mem h1
  exact ⟨q, hq, hq, rfl, h2⟩
def VSet (G : Gram) (L : List Itm) (x : Itm) : Prop := checkN G = 0 /\ x ∈ L /\ zAD G x = true
def zOv (X : Itm -> Prop) (m : Nat) (w : World) (e : Ending) (w' : World) : Prop :=
 ∃ b n, e = .returned (.map (some b)) /\ w.heap.size <= b /\ n <= m /\ MS b n X w' /\ Below w.heap.size w w'
theorem zKk (h : Sh) (G : Gram) (L : List Itm) (a : Option Addr) (c : Nat) (w : World) (k : GAt h G w) (kl : ItsA a L w) (hw : ∀ x ∈ L, W64 x) (hL : L.length <= 8796093022208) :
  Calls Tryz.prog 105 #[gv h G, .slice a L.length c] w (zOv (VSet G L) L.length w) := by
 have X := zPB (Bx.start h G w 25)
 have C := zPB (fun w1 (b : Below w.heap.size w w1) => zBC h G w1 (k.went b))
 have F := zPB (fun (x : Itm) w1 (b : Below w.heap.size w w1) => zLA h G x w1 (k.went b))
 have KL := zPB (fun w1 (b : Below w.heap.size w w1) => kl.went b)
 have HW := zPB hw
 have M0 := zPB (MSet.made (H := Nat) (w.alloc (.cells #[.slice h.a1 G.terms.length h.c1, .slice h.a2 G.nons.length h.c2, .slice h.a3 G.rules.length h.c3, .int .i64 G.start] 25)) Tryz.prog 108 unitElem (.agg []))
 have X1 := zPB (X.out.alloc (.map #[] 0))
 have hs1 : (w.alloc (.cells #[.slice h.a1 G.terms.length h.c1, .slice h.a2 G.nons.length h.c2, .slice h.a3 G.rules.length h.c3, .int .i64 G.start] 25)).heap.size = w.heap.size + 1 := by simp
 rw [hs1] at M0
 clear k kl hw X hs1
 by_cases hc : checkN G = 0
 ·rw [hc] at C
  unfold gv at C F ⊢
  have hmm := @run_makeMap Tryz.prog
  go_enter Tryz.func105, Tryz.ntmps105
  go_wp2_with (go_at_call 37; refine (C.out _ X1.out.below).mono ?_; rintro e w1 ⟨rfl, hb⟩; have X := zPB (X1.out.went hb); have M := zPB (M0.out.went hb); clear hb X1 M0)
  go_loopw [15] (fun i wr => ∃ j : Nat, j <= L.length /\ i = .int .i64 j /\ Bx w h G wr /\ ∃ n ≤ j, MS (w.heap.size + 1) n (VTo G L j) wr) (fun i _ => L.length - (intOf i).toNat)
  case atStart => exact ⟨0, Nat.zero_le _, rfl, X.out, 0, Nat.le_refl _, M.out.iff fun x _ => zOn.symm⟩
  case round =>
   obtain ⟨j, hj, rfl, hX, n, hn, hM⟩ := hrel
   clear X M
   have X := zPB hX
   have M := zPB hM
   clear hX hM
   by_cases hlt : j < L.length
   ·obtain ⟨b, o, rfl, c0, c1⟩ := (KL.out wr X.out.below).at j hlt
    have hx := HW.out _ (List.getElem_mem hlt)
    have HH := zPB (fun q => zN2 (G := G) (L := L) (j := j) hlt q)
    have HM := zPB (fun q => zMQ (G := G) (L := L) (j := j) hlt q)
    have e1 : ((L[j].1, L[j].2) : Itm) = L[j] := rfl
    generalize L[j] = x at *
    obtain ⟨x0, x1⟩ := x
    dsimp only at c0 c1
    have FX := zPB (F.out (x0, x1) _ (X.out.alloc (.cells #[.int .i64 x0, .int .i64 x1] 108)).below)
    have XA := zPB (X.out.alloc (.cells #[.int .i64 x0, .int .i64 x1] 108))
    have y0 : (wr.alloc (.cells #[.int .i64 x0, .int .i64 x1] 108)).cell? ⟨wr.heap.size, 0, none⟩ = some (.int .i64 x0) := zAB rfl rfl
    have y1 : (wr.alloc (.cells #[.int .i64 x0, .int .i64 x1] 108)).cell? ⟨wr.heap.size, 1, none⟩ = some (.int .i64 x1) := zAB rfl rfl
    have MA := zPB (M.out.went (boxed wr (.cells #[.int .i64 x0, .int .i64 x1] 108)))
    have e2 : (VTo G L j (x0, x1)) = VTo G L j (x0, x1) := rfl
    obtain ⟨g0, g1, g2, g3⟩ := XA.out.box
    clear X M e1 e2
    by_cases hr : zAD G (x0, x1) = true
    ·rw [hr] at FX
     unfold iv at FX
     go_wp2_with (first
      | (go_at_call 120; refine FX.out.mono ?_; rintro e w2 ⟨rfl, hb⟩; have X := zPB (XA.out.went hb); have M := zPB (MA.out.went hb); have z0 := cell_later hb y0; have z1 := cell_later hb y1; have PA := zPB (zGR (x0, x1) hx (w.heap.size + 1) n (VTo G L j) w2 M.out (by unfold maxLen; omega)); clear hb)
      | (go_at_call 121; refine PA.out.mono ?_; rintro e w3 ⟨ok, _, rfl, hm, hf⟩; have MB := zPB hm; have XB := zPB (zHi X.out hf fun i hi => by omega); clear hm hf))
     go_roundw
     case rel => exact ⟨j + 1, by omega, by go_num, XB.out, n + 1, by omega, MB.out.iff fun x _ => HH.out hr x⟩
     case measure => simp [intOf]; omega
    ·have hr' : zAD G (x0, x1) = false := by simpa using hr
     rw [hr'] at FX
     unfold iv at FX
     go_wp2_with (go_at_call 120; refine FX.out.mono ?_; rintro e w2 ⟨rfl, hb⟩; have X := zPB (XA.out.went hb); have M := zPB (MA.out.went hb); clear hb)
     go_roundw
     case rel => exact ⟨j + 1, by omega, by go_num, X.out, n, by omega, M.out.iff fun x _ => HM.out hr x⟩
     case measure => simp [intOf]; omega
   ·have hE : j = L.length := by omega
    subst hE
    go_wp2
    go_ret
    refine ⟨_, n, rfl, by omega, hn, M.out.iff fun x _ => ?_, X.out.below⟩
    rw [zN1]
    exact ⟨fun h => ⟨hc, h⟩, fun h => h.2⟩
 ·have hb : (checkN G == 0) = false := by simpa using hc
  unfold gv at C ⊢
  have hmm := @run_makeMap Tryz.prog
  go_enter Tryz.func105, Tryz.ntmps105
  go_wp2_with (go_at_call 37; refine (C.out _ X1.out.below).mono ?_; rintro e w1 ⟨rfl, hb⟩; have X := zPB (X1.out.went hb); have M := zPB (M0.out.went hb); clear hb X1 M0)
  go_ret
  exact ⟨_, 0, rfl, by omega, Nat.zero_le _, M.out.iff fun x _ => ⟨False.elim, fun h => hc h.1⟩, X.out.below⟩
end Im
namespace Im
open Gr (Gram Sh gv GAt Box step checkN ofN ofL zCP ivs)
theorem zLy {a : Option Addr} {xs : List Value} {S : Nat -> Prop} {w w' : World} (h : Sep.Reads a xs w) (f : Sep.Fr S w w') (hn : ∀ b o, a = some ⟨b, o, none⟩ -> ¬ S b) : Sep.Reads a xs w' := fun i hi => by
 obtain ⟨b, o, e, hc⟩ := h i hi
 exact ⟨b, o, e, f.cell hc (hn b o e)⟩
structure Bo (W : World) (h : Sh) (G : Gram) (x : Itm) (d : Nat) (w : World) : Prop where
 fr : Sep.Fr (· = d) W w
 box : Box W.heap.size h G w
 i0 : w.cell? ⟨W.heap.size + 1, 0, none⟩ = some (.int .i64 x.1)
 i1 : w.cell? ⟨W.heap.size + 1, 1, none⟩ = some (.int .i64 x.2)
theorem Bo.start (h : Sh) (G : Gram) (x : Itm) (d : Nat) (w : World) (T U : TypeId) : Bo w h G x d ((w.alloc (.cells #[.slice h.a1 G.terms.length h.c1, .slice h.a2 G.nons.length h.c2, .slice h.a3 G.rules.length h.c3, .int .i64 G.start] T)).alloc (.cells #[.int .i64 x.1, .int .i64 x.2] U)) := by
 have k := Bi.start h G x w T U
 exact ⟨.of_below k.below, k.bx.box, k.i0, k.i1⟩
theorem Bo.later {W : World} {h : Sh} {G : Gram} {x : Itm} {d : Nat} {w w' : World} (k : Bo W h G x d w) (hd : d < W.heap.size) (f : Sep.Fr (· = d) w w') : Bo W h G x d w' := by
 have h0 : ¬ W.heap.size = d := by omega
 have h1 : ¬ W.heap.size + 1 = d := by omega
 exact ⟨k.fr.trans f (.refl _ _), ⟨f.cell k.box.x0 h0, f.cell k.box.x1 h0, f.cell k.box.x2 h0, f.cell k.box.x3 h0⟩, f.cell k.i0 h1, f.cell k.i1 h1⟩
theorem Bo.went {W : World} {h : Sh} {G : Gram} {x : Itm} {d : Nat} {w w' : World} (k : Bo W h G x d w) (hd : d < W.heap.size) (hb : Below w.heap.size w w') : Bo W h G x d w' := k.later hd (.of_below hb)
theorem zH2 {G : Gram} {s : Int} {i : Nat} (h : i ∈ ofN G s) : i < G.rules.length := (Gr.zDJ.1 h).1
theorem zFi {G : Gram} {d n : Nat} {X : Itm -> Prop} {x : Itm} {w : World} (hX : ∀ y, X y -> zAD G y = true) (hx : zAD G x = true) (h : MS d n (fun y => X y \/ y = x) w) : MS d (allI G).length (fun y => X y \/ y = x) w :=
 h.tight ktI (allI G) fun y _ hy => zDI (hy.elim (hX y) fun e => e ▸ hx)
theorem zEN (h : Sh) (G : Gram) (hv : checkN G = 0) (d : Nat) (x : Itm) (X : Itm -> Prop) (w : World) (hx : zAD G x = true) (hX : ∀ y, X y -> zAD G y = true) (hXx : X x) (hs : MS d (allI G).length X w) :
  Calls Tryz.prog 106 #[.map (some d), gv h G, iv x] w fun e w' => e = .returned (.tuple #[]) /\ ∃ Y, Sprd G X x Y /\ MS d (allI G).length Y w' /\ Sep.Fr (· = d) w w' := by
 have ha := zAZ hv
 have hd := hs.lt
 have B := zPB (Bo.start h G x d w 25 108)
 have P := zPB (zGR x (zBo hv hx) d (allI G).length X _ (hs.went (Bi.start h G x w 25 108).below) (by unfold maxLen; omega))
 obtain ⟨x0, x1⟩ := x
 unfold gv iv at *
 dsimp only at B P ⊢
 go_enter Tryz.func106, Tryz.ntmps106
 go_wp2_with (go_at_call 121; refine P.out.mono ?_; rintro e w1 ⟨ok, hok, rfl, hm, hf⟩; obtain rfl : ok = false := (by cases ok with | false => rfl | true => exact absurd hXx (hok.1 rfl)); have PM := zPB hm; have PF := zPB hf; clear hm hf hok)
 refine bodyPost_ret (v := .tuple #[]) (by simp [results, Tryz.results106, go_sem]) rfl ?_
 exact ⟨rfl, _, .none hXx fun y => .rfl, zFi hX hx PM.out, B.out.fr.trans PF.out (.refl _ _)⟩
theorem zIO (h : Sh) (G : Gram) (hv : checkN G = 0) (W0 : World) (k : GAt h G W0) (d : Nat) (hd : W0.heap.size <= d) : ∀ (N : Nat) (M : List Itm) (x : Itm) (X : Itm -> Prop) (w : World), M.length <= N -> zAD G x = true -> (∀ y, X y -> zAD G y = true) -> (∀ y, zAD G y = true -> ¬ X y -> y ∈ M) ->
  Below W0.heap.size W0 w -> MS d (allI G).length X w ->
  Calls Tryz.prog 106 #[.map (some d), gv h G, iv x] w fun e w' => e = .returned (.tuple #[]) /\ ∃ Y, Sprd G X x Y /\ MS d (allI G).length Y w' /\ Sep.Fr (· = d) w w' := by
 have ha := zAZ hv
 have hr3 := (zCN (Gr.zAk hv).1).1
 intro N
 induction N with
 | zero =>
  intro M x X w hM hx hX hm hb hs
  have hMe : M = [] := by cases M with | nil => rfl | cons _ _ => simp at hM
  subst hMe
  have hXx : X x := by
   rcases Classical.em (X x) with q | q
   ·exact q
   ·have := hm x hx q
    cases this
  exact zEN h G hv d x X w hx hX hXx hs
 | succ N ih =>
  intro M x X w hM hx hX hm hb hs
  rcases Classical.em (X x) with hXx | hXx
  ·exact zEN h G hv d x X w hx hX hXx hs
  have hMx := hm x hx hXx
  have hM' : (M.erase x).length <= N := by
   rw [List.length_erase_of_mem hMx]
   omega
  have hdw := hs.lt
  have B := zPB (Bo.start h G x d w 25 108)
  have P := zPB (zGR x (zBo hv hx) d (allI G).length X _ (hs.went (Bi.start h G x w 25 108).below) (by unfold maxLen; omega))
  have HB := zPB (fun w1 (f : Sep.Fr (· = d) w w1) => show Below W0.heap.size W0 w1 from hb.trans (f.below (fun i hi => by omega) hb.size))
  have HN := zPB (fun w1 (b : Below W0.heap.size W0 w1) => zHg h G x w1 (k.went b))
  have HO := zPB (fun w1 (b : Below W0.heap.size W0 w1) => zCP h G (behV G x) w1 (k.went b) (by omega))
  have IH := zPB (fun (r : Int) (Z : Itm -> Prop) w1 (b : Below W0.heap.size W0 w1) (hr : zAD G (r, 0) = true) (hZ : ∀ y, Z y -> zAD G y = true) (hZX : ∀ y, X y -> Z y) (hZx : Z x) (hz : MS d (allI G).length Z w1) => ih (M.erase x) (r, 0) Z w1 hM' hr hZ (fun y hy hn => (List.mem_erase_of_ne (fun e => hn (by rw [e]; exact hZx))).2 (hm y hy fun q => hn (hZX y q))) b hz)
  obtain ⟨e1, e2⟩ := zNQ hx
  rw [e1, e2] at HN
  clear e1 e2 ih k hs hm hM hM' hMx
  generalize hnb : behB G x = nb at HN
  obtain ⟨x0, x1⟩ := x
  unfold gv iv at *
  dsimp only at B P ⊢
  go_enter Tryz.func106, Tryz.ntmps106
  go_wp2_with (first
   | (go_at_call 121; refine P.out.mono ?_; rintro e w1 ⟨ok, hok, rfl, hm, hf⟩; obtain rfl : ok = true := hok.2 hXx; have PM := zPB (zFi hX hx hm); have PB := zPB (B.out.later hdw hf); obtain ⟨⟨g0, g1, g2, g3⟩, y0, y1⟩ := (⟨PB.out.box, PB.out.i0, PB.out.i1⟩ : _ /\ _ /\ _); clear hm hf hok B P)
   | (go_at_call 122; refine (HN.out _ (HB.out _ PB.out.fr)).mono ?_; rintro e w2 ⟨rfl, hb2⟩; have QM := zPB (PM.out.went hb2); have QB := zPB (PB.out.went hdw hb2); obtain ⟨⟨g0, g1, g2, g3⟩, y0, y1⟩ := (⟨QB.out.box, QB.out.i0, QB.out.i1⟩ : _ /\ _ /\ _); clear hb2 PM PB)
   | (go_at_call 93; refine (HO.out _ (HB.out _ QB.out.fr)).mono ?_; rintro e w3 ⟨a3, c3, rfl, hr, hn, hb3⟩; have RM := zPB (QM.out.went hb3); have RB := zPB (QB.out.went hdw hb3); have RL := zPB hr; have RN := zPB (show ∀ b o, a3 = some ⟨b, o, none⟩ -> ¬ b = d from fun b o e => by have := hn _ e; have := QB.out.fr.size; dsimp only at *; omega); clear hr hn hb3 QM QB))
  clear HN HO
  have PS := zPB (Part.start (K := ofN G (behV G (x0, x1))) hx (fun y => (Iff.rfl : (X y \/ y = (x0, x1)) ↔ _)))
  have HK := zPB (fun j (hj : j < (ofN G (behV G (x0, x1))).length) => show (ofL G (behV G (x0, x1)))[j]'(by rw [Gr.zA8]; exact hj) = (((ofN G (behV G (x0, x1)))[j] : Nat) : Int) by simp [ofL, Gr.ofI, ofN])
  have hkl := Gr.zA8 G (behV G (x0, x1))
  have hsm : (ofN G (behV G (x0, x1))).length <= 300 := by
   have := Gr.zJt G.rules (behV G (x0, x1)) G.rules.length
   rw [← hkl]
   exact Nat.le_trans this hr3
  rw [hkl]
  go_loopw [24] (fun i wr => ∃ j : Nat, j <= (ofN G (behV G (x0, x1))).length /\ i = .int .i64 j /\ Bo w h G (x0, x1) d wr /\ Sep.Reads a3 (ivs (ofL G (behV G (x0, x1)))) wr /\ ∃ Z, Part G X (x0, x1) (ofN G (behV G (x0, x1))) j Z /\ MS d (allI G).length Z wr) (fun i _ => (ofN G (behV G (x0, x1))).length - (intOf i).toNat)
  case atStart => exact ⟨0, Nat.zero_le _, rfl, RB.out, RL.out, _, PS.out, RM.out⟩
  case round =>
   obtain ⟨j, hj, rfl, hB, hL, Z, hP, hZ⟩ := hrel
   clear RB RL RM PS
   obtain ⟨⟨g0, g1, g2, g3⟩, y0, y1⟩ := (⟨hB.box, hB.i0, hB.i1⟩ : _ /\ _ /\ _)
   have B := zPB hB
   have L := zPB hL
   have PZ := zPB hP
   have MZ := zPB hZ
   by_cases hlt : j < (ofN G (behV G (x0, x1))).length
   ·obtain ⟨b, o, rfl, hc⟩ := hL j (by simp [ivs]; omega)
    have hk : (ivs (ofL G (behV G (x0, x1))))[j]'(by simp [ivs]; omega) = .int .i64 (((ofN G (behV G (x0, x1)))[j] : Nat) : Int) := by
     simp only [ivs, List.getElem_map, Gr.iv]
     rw [HK.out j hlt]
    rw [hk] at hc
    have PST := zPB (fun (Y : Itm -> Prop) => Part.step (Y := Y) hv hx hP hlt)
    have hkr : zAD G ((((ofN G (behV G (x0, x1)))[j] : Nat) : Int), 0) = true := zB0 (Nat.le_of_lt (zH2 (List.getElem_mem hlt)))
    have C := zPB (IH.out _ Z wr (HB.out _ hB.fr) hkr (hP.right hX) hP.old hP.own hZ)
    clear hk hL hP hZ hB hkr
    generalize (ofN G (behV G (x0, x1)))[j] = r at *
    go_wp2_with (go_at_call 106; refine C.out.mono ?_; rintro e w4 ⟨rfl, Y, hs, hm, hf⟩; have MY := zPB hm; have PY := zPB (PST.out Y hs); have BY := zPB (B.out.later hdw hf); have LY := zPB (zLy L.out hf RN.out); clear hs hm hf)
    go_roundw
    case rel => exact ⟨j + 1, by omega, by go_num, BY.out, LY.out, Y, PY.out, MY.out⟩
    case measure => simp [intOf]; omega
   ·have hE : j = (ofN G (behV G (x0, x1))).length := by omega
    subst hE
    go_wp2
    go_end0
    exact ⟨rfl, Z, PZ.out.done, MZ.out, B.out.fr⟩
end Im
namespace Im
open Gr (Gram Sh gv GAt Bx step boxed checkN zAB)
noncomputable def lst (G : Gram) (L : List Itm) : List Itm := if checkN G = 0 then L else []
theorem zJi {G : Gram} {L : List Itm} {x : Itm} : x ∈ lst G L ↔ checkN G = 0 /\ x ∈ L := by
 unfold lst
 by_cases h : checkN G = 0
 ·simp [h]
 ·simp [h]
theorem zOX {G : Gram} (h : checkN G = 0) (L : List Itm) : lst G L = L := if_pos h
theorem zNP {G : Gram} (h : ¬ checkN G = 0) (L : List Itm) : lst G L = [] := if_neg h
theorem zJe {G : Gram} {L : List Itm} (x : Itm) : VSet G L x ↔ (x ∈ lst G L /\ zAD G x = true) := by
 unfold VSet
 rw [zJi, and_assoc]
theorem zK5 {G : Gram} {x : Itm} (h : Clo G [] x) : False := by
 induction h with
 | of h _ => cases h
 | next _ _ _ ih => exact ih
theorem zMv {G : Gram} {L : List Itm} {x : Itm} : Clo G (lst G L) x ↔ checkN G = 0 /\ Clo G L x := by
 by_cases h : checkN G = 0
 ·rw [zOX h]
  exact ⟨fun k => ⟨h, k⟩, fun k => k.2⟩
 ·rw [zNP h]
  exact ⟨fun k => (zK5 k).elim, fun k => absurd k.1 h⟩
noncomputable def allL (G : Gram) : List Itm := if checkN G = 0 then allI G else []
theorem zGg (G : Gram) : (allL G).length <= 2709 := by
 unfold allL
 by_cases h : checkN G = 0
 ·rw [if_pos h]
  exact zAZ h
 ·rw [if_neg h]
  simp
theorem zLb {G : Gram} {x : Itm} (h : checkN G = 0) (hx : zAD G x = true) : x ∈ allL G := by
 unfold allL
 rw [if_pos h]
 exact zDI hx
theorem zCs.of {P Q : Itm -> Prop} {w w1 w' : World} {e : Ending} (h : zCs P w1 e w') (hb : Below w.heap.size w w1) (hi : ∀ x, P x ↔ Q x) : zCs Q w e w' := by
 obtain ⟨Y, a, c, h1, h2, h3, h4⟩ := h
 exact ⟨Y, a, c, h1, h2.iff hi, h3.mono hb.size, Gr.step hb h4⟩
structure Rnd (W : World) (h : Sh) (G : Gram) (d b r n q : Nat) (X Lf Z : Itm -> Prop) (m : Nat) (w : World) : Prop where
 bx : Bx W h G w
 run : MR b r n q X Lf w
 set : MS d m Z w
 d1 : W.heap.size + 1 <= d
 d2 : d < b
 d3 : d < r
theorem Rnd.later {W : World} {h : Sh} {G : Gram} {d b r n q m : Nat} {X Lf Z : Itm -> Prop} {w w' : World} (k : Rnd W h G d b r n q X Lf Z m w) (hb : Below w.heap.size w w') : Rnd W h G d b r n q X Lf Z m w' /\ w'.rangeLeft b r = w.rangeLeft b r :=
 ⟨⟨k.bx.went hb, k.run.went hb, k.set.went hb, k.d1, k.d2, k.d3⟩, MRan.left_keep (hb.block b k.run.lt.1) (hb.block r k.run.lt.2.1)⟩
theorem Rnd.wrote {W : World} {h : Sh} {G : Gram} {d b r n q m m' : Nat} {X Lf Z Z' : Itm -> Prop} {w w' : World} (k : Rnd W h G d b r n q X Lf Z m w) (f : Sep.Fr (· = d) w w') (hs : MS d m' Z' w') : Rnd W h G d b r n q X Lf Z' m' w' /\ w'.rangeLeft b r = w.rangeLeft b r := by
 have h1 := f.block b k.run.lt.1 (by have := k.d2; omega)
 have h2 := f.block r k.run.lt.2.1 (by have := k.d3; omega)
 exact ⟨⟨zHi k.bx f fun i hi => by have := k.d1; omega, k.run.keep h1 h2, hs, k.d1, k.d2, k.d3⟩, MRan.left_keep h1 h2⟩
theorem Rnd.next {W : World} {h : Sh} {G : Gram} {d b r n q m : Nat} {X Lf Lf' Z : Itm -> Prop} {w w' : World} (k : Rnd W h G d b r n q X Lf Z m w) (hg : w.grownBy w' (some r)) (hr : MR b r n (q + 1) X Lf' w') : Rnd W h G d b r n (q + 1) X Lf' Z m w' := by
 refine ⟨k.bx.grown hg fun g e => ?_, hr, k.set.keep (hg.block d k.set.lt fun e => ?_), k.d1, k.d2, k.d3⟩
 ·injection e with e
  have := k.d1
  have := k.d3
  omega
 ·injection e with e
  have := k.d3
  omega
theorem zIq (h : Sh) (G : Gram) (L : List Itm) (a : Option Addr) (c : Nat) (w : World) (k : GAt h G w) (kl : ItsA a L w) (hw : ∀ x ∈ L, W64 x) (hL : L.length <= 1000000) :
  Calls Tryz.prog 94 #[gv h G, .slice a L.length c] w (zCs (fun x => checkN G = 0 /\ Clo G L x) w) := by
 have X0 := zPB (Bx.start h G w 25)
 have V := zPB (fun w1 (b : Below w.heap.size w w1) => zKk h G L a c w1 (k.went b) (kl.went b) hw (by omega))
 have M0 := zPB (MSet.made (H := Nat) (w.alloc (.cells #[.slice h.a1 G.terms.length h.c1, .slice h.a2 G.nons.length h.c2, .slice h.a3 G.rules.length h.c3, .int .i64 G.start] 25)) Tryz.prog 108 unitElem (.agg []))
 have X1 := zPB (X0.out.alloc (.map #[] 0))
 have hs1 : (w.alloc (.cells #[.slice h.a1 G.terms.length h.c1, .slice h.a2 G.nons.length h.c2, .slice h.a3 G.rules.length h.c3, .int .i64 G.start] 25)).heap.size = w.heap.size + 1 := by simp
 have hs2 : ((w.alloc (.cells #[.slice h.a1 G.terms.length h.c1, .slice h.a2 G.nons.length h.c2, .slice h.a3 G.rules.length h.c3, .int .i64 G.start] 25)).alloc (.map #[] 0)).heap.size = w.heap.size + 2 := by simp
 rw [hs1] at M0
 have SP := zPB (fun (hv : checkN G = 0) (x : Itm) (Z : Itm -> Prop) w1 (b : Below w.heap.size w w1) (hx : zAD G x = true) (hZ : ∀ y, Z y -> zAD G y = true) (hz : MS (w.heap.size + 1) (allI G).length Z w1) => zIO h G hv w k (w.heap.size + 1) (by omega) (allI G).length (allI G) x Z w1 (Nat.le_refl _) hx hZ (fun y hy _ => zDI hy) b hz)
 clear k kl hw X0 hs1
 unfold gv at *
 have hmm := @run_makeMap Tryz.prog
 go_enter Tryz.func94, Tryz.ntmps94
 go_wp2_with (first
  | (go_at_call 105; refine (V.out _ X1.out.below).mono ?_; rintro e w1 ⟨b, n, rfl, hb1, hb2, hm, hb⟩; have X2 := zPB (X1.out.went hb); have Z2 := zPB (M0.out.went hb); have V2 := zPB hm; rw [hs2] at hb1; clear hm hb)
  | (at_range; refine zCq _ rfl _ rfl ktI Tryz.underlying149 (.agg []) b n _ rfl V2.out ?_; intro w2 hrg hg hsz)
  | go_in)
 have hX2s := X2.out.size
 have R0 := zPB (show Rnd w h G (w.heap.size + 1) b w1.heap.size n 0 _ _ (fun _ => False) (allI G).length w2 from
  ⟨X2.out.grown hg (fun g e => by cases e), hrg, (Z2.out.keep (hg.block _ Z2.out.lt (fun e => by cases e))).mono (Nat.zero_le _), Nat.le_refl _, by omega, by have := V2.out.lt; omega⟩)
 have P0 := zPB (Way.start (G := G) (L := lst G L) (X := VSet G L) (Z := fun _ => False) (fun y h1 h2 => (zJe y).2 ⟨h1, h2⟩) (fun _ => id))
 clear V X1 M0 X2 Z2 hrg hg hsz hs2 hX2s
 go_frame
 go_loopw [6] (fun _ wr => ∃ (q : Nat) (Lf Z : Itm -> Prop), Rnd w h G (w.heap.size + 1) b w1.heap.size n q (VSet G L) Lf Z (allI G).length wr /\ Way G (lst G L) Lf Z) (fun _ wr => wr.rangeLeft b w1.heap.size)
 case atStart => exact ⟨0, _, _, R0.out, P0.out⟩
 case round =>
  obtain ⟨q, Lf, Z, hR, hP⟩ := hrel
  clear R0 P0
  have HR := zPB hR
  have HP := zPB hP
  have hrg := hR.run
  clear hR hP
  go_wp2_with (first
   | (at_next; refine zC0 _ rfl _ rfl ktI b w1.heap.size n q _ Lf rfl hrg ?_ ?_)
   | go_in)
  ·intro hd
   have hz : ∀ y, Z y ↔ checkN G = 0 /\ Clo G L y := fun y => (HP.out.done (fun y h1 h2 => hd y (zBo (zJi.1 h1).1 h2)) y).trans zMv
   have hzm : ∀ y, Z y -> y ∈ allL G := fun y hy => zLb ((hz y).1 hy).1 (HP.out.right y hy)
   have LS := zPB ((zLW (w.heap.size + 1) (allL G).length Z wr (HR.out.set.tight ktI (allL G) fun y _ hy => hzm y hy) (Nat.le_trans (zGg G) (by omega)) (allL G) hzm (Nat.le_trans (zGg G) (by omega))).mono fun e w' hl => zCs.of (Q := fun x => checkN G = 0 /\ Clo G L x) hl HR.out.bx.below fun x => ⟨fun q => (hz x).1 q.1, fun q => ⟨(hz x).2 q, zBo q.1 (zBD q.2)⟩⟩)
   have hB := HR.out.bx.below
   clear HR HP hrg hzm
   go_wp2_with (go_at_call 107; refine LS.out.mono ?_; rintro e w4 ⟨Y, a4, c4, rfl, h1, h2, h3⟩; have H1 := zPB h1; have H2 := zPB h2; have H3 := zPB h3; clear h1 h2 h3)
   go_ret
   exact ⟨Y, a4, c4, rfl, H1.out, H2.out, H3.out⟩
  ·intro x0 x1 w3 hx hlf hXx hrg2 hlt hg2 hs2 hen
   have hv := hXx.1
   have hR3 := HR.out.next hg2 hrg2
   obtain ⟨hR4, hl4⟩ := hR3.later (boxed w3 (.cells #[.int .i64 x0, .int .i64 x1] 108))
   obtain ⟨g0, g1, g2, g3⟩ := hR4.bx.box
   have y0 : (w3.alloc (.cells #[.int .i64 x0, .int .i64 x1] 108)).cell? ⟨w3.heap.size, 0, none⟩ = some (.int .i64 x0) := zAB rfl rfl
   have y1 : (w3.alloc (.cells #[.int .i64 x0, .int .i64 x1] 108)).cell? ⟨w3.heap.size, 1, none⟩ = some (.int .i64 x1) := zAB rfl rfl
   have R4 := zPB hR4
   have C := zPB (SP.out hv (x0, x1) Z _ hR4.bx.below hXx.2.2 HP.out.right hR4.set)
   have PS := zPB (fun (Y : Itm -> Prop) => HP.out.step (Y := Y) (x := (x0, x1)) ((zJe _).1 hXx).1 hXx.2.2)
   have hl5 : wr.rangeLeft b w1.heap.size > (w3.alloc (.cells #[.int .i64 x0, .int .i64 x1] 108)).rangeLeft b w1.heap.size := by rw [hl4]; exact hlt
   unfold iv at hen C ⊢
   dsimp only at hen C ⊢
   clear hR3 hR4 hl4 hlt hs2 hrg hrg2 HR HP hXx hlf hg2 hx
   go_wp2_with (go_at_call 106; refine C.out.mono ?_; rintro e w5 ⟨rfl, Y, hs, hm, hf⟩; obtain ⟨r5, l5⟩ := R4.out.wrote hf hm; have P5 := zPB (PS.out Y hs); have R5 := zPB r5; rw [← l5] at hl5; clear hs hm hf l5 r5)
   go_roundw
   case rel => exact ⟨_, _, Y, R5.out, P5.out⟩
   case measure => exact hl5
end Im
namespace Au
open Gr (Gram Sh gv GAt checkN boxed zAB zAJ)
open Im
theorem zLX (n k : Nat) (h : k < n) (z : Value) : (madeCells #[z] n)[k]? = some z := by
 simp [madeCells, h, Nat.mod_one]
theorem zDH (n : Nat) (hn : n <= 10000) (w : World) :
  (Instr.makeSlice 85 (.int .i64 (n : Int)) (.int .i64 (n : Int))).run Tryz.prog w = .ok (.slice (some ⟨w.heap.size, 0, none⟩) n n) (w.alloc (.cells (madeCells #[.slice none 0 0] n) 50)) :=
 run_make_row' 85 50 (.slice none 0 0) 24 Tryz.underlying85 zGq rfl .i64 .i64 n (by omega) (by omega) w
theorem zM1 (n m : Nat) (w w' : World) (hm : w.heap.size < m) (hw : m <= w'.heap.size) (hb : w'.heap[w.heap.size]? = (w.alloc (.cells (madeCells #[.slice none 0 0] n) 50)).heap[w.heap.size]?) : Fam 108 w.heap.size m n (fun _ => []) (fun _ => .slice none 0 0) w' := by
 have B := Rw.Bk.new w (madeCells #[.slice none 0 0] n) 50 _ rfl
 exact ⟨fun s hs => (World.cell?_of_block (a := ⟨w.heap.size, s, none⟩) hb).trans (B.cell (zLX n s hs _)), fun j => (World.frozen?_of_block (a := ⟨w.heap.size, j, none⟩) hb).trans (B.free j), fun s _ => ItsV.nil _ _ _, fun s r _ _ _ g e => by simp [Value.ownBlock] at e, hm, hw⟩
def zKt (Y : List Itm) (w : World) (e : Ending) (w' : World) : Prop := ∃ a c, e = .returned (.slice a Y.length c) /\ ItsV 108 w.heap.size Y (.slice a Y.length c) w' /\ Below w.heap.size w w'
theorem zHk (h : Sh) (G : Gram) (hv : checkN G = 0) (L : List Itm) (a : Option Addr) (c : Nat) (w : World) (k : GAt h G w) (kl : ItsA a L w) (hw : ∀ x ∈ L, W64 x) (hL : L.length <= 1000000) :
  Calls Tryz.prog 94 #[gv h G, .slice a L.length c] w (zKt (clL G L) w) := by
 refine (zIq h G L a c w k kl hw hL).mono ?_
 rintro e w' ⟨Y, a', c', rfl, h1, h2, h3⟩
 have : Y = clL G L := (h1.iff (Q := Clo G L) fun x => ⟨fun q => q.2, fun q => ⟨hv, q⟩⟩).uniq (zFW G L)
 subst this
 exact ⟨a', c', rfl, h2, h3⟩
def zK0 (F : Nat -> List Itm) (n : Nat) (w : World) (e : Ending) (w' : World) : Prop := ∃ b c, e = .returned (.slice (some ⟨b, 0, none⟩) n c) /\ w.heap.size <= b /\ b < w'.heap.size /\
 (∀ s, s < n -> ∃ a c', w'.cell? ⟨b, s, none⟩ = some (.slice a (F s).length c') /\ (F s).length <= c' /\ ItsA a (F s) w' /\ ∀ b' o, a = some ⟨b', o, none⟩ -> w.heap.size <= b') /\ Below w.heap.size w w'
theorem zIz {G : Gram} {c : List Itm} {k : Nat} (hk : k < c.length) (hb : behB G c[k] = true) {s : Nat} (hs : behV G c[k] = (s : Int)) (r : Nat) :
  upd (fun r : Nat => zAj G (c.take k) (r : Int)) s (zAj G (c.take k) (s : Int) ++ [(c[k].1, c[k].2 + 1)]) r = zAj G (c.take (k + 1)) (r : Int) := by
 rw [List.take_succ_eq_append_getElem hk, zEP]
 by_cases e : r = s
 ·subst e
  rw [upd_same, if_pos ⟨hb, hs⟩]
 ·rw [zAE e, if_neg, List.append_nil]
  rintro ⟨_, q⟩
  omega
theorem zK9 {G : Gram} {c : List Itm} {k : Nat} (hk : k < c.length) (hb : behB G c[k] = false) (r : Int) : zAj G (c.take k) r = zAj G (c.take (k + 1)) r := by
 rw [List.take_succ_eq_append_getElem hk, zEP, if_neg, List.append_nil]
 rintro ⟨q, _⟩
 rw [hb] at q
 cases q
structure StR (W w w2 : World) (b n : Nat) (a : Option Addr) (G : Gram) (C : List Itm) (k : Nat) (D : Nat -> Value) (wr : World) : Prop where
 fam : Fam 108 b w2.heap.size n (fun s => zAj G (C.take k) (s : Int)) D wr
 fr : Sep.Fr (· = b) w2 wr
theorem StR.below {W w w2 wr : World} {b n k : Nat} {a : Option Addr} {G : Gram} {C : List Itm} {D : Nat -> Value} (h : StR W w w2 b n a G C k D wr) (hb : w.heap.size <= b) (h2 : Below w.heap.size w w2) : Below w.heap.size w wr :=
 h2.trans (h.fr.below (fun i hi => by omega) h2.size)
theorem StR.went {W w w2 wr wx : World} {b n k : Nat} {a : Option Addr} {G : Gram} {C : List Itm} {D : Nat -> Value} (h : StR W w w2 b n a G C k D wr) (hb : Below wr.heap.size wr wx) : StR W w w2 b n a G C k D wx :=
 ⟨h.fam.went hb, Rw.zI5 h.fr hb⟩
structure BoxC (wb wc : World) (rb : Nat) (rr : List Int) (ra : Option Addr) (rc : Nat) : Prop where
 below : Below wb.heap.size wb wc
 cell : wc.cell? ⟨rb, 1, none⟩ = some (.slice ra rr.length rc)
 at_ : ∀ d (hd : d < rr.length), rr[d] ≠ 0 -> ∃ b2 o2, ra = some ⟨b2, o2, none⟩ /\ wc.cell? ⟨b2, o2 + d, none⟩ = some (.int .i64 rr[d])
theorem zFk {ra : Option Addr} {rr : List Int} {w : World} (h : Sep.Reads ra (Gr.ivs rr) w) (d : Nat) (hd : d < rr.length) : ∃ b2 o2, ra = some ⟨b2, o2, none⟩ /\ w.cell? ⟨b2, o2 + d, none⟩ = some (.int .i64 rr[d]) := by
 obtain ⟨b2, o2, e, hc⟩ := h d (by simpa [Gr.ivs] using hd)
 exact ⟨b2, o2, e, by simpa [Gr.ivs, Gr.iv] using hc⟩
theorem zMr {wb v1 : World} {rl : Int} {rr : List Int} {ra : Option Addr} {rc : Nat} (T : TypeId) (h : Below wb.heap.size wb v1) (r : Sep.Reads ra (Gr.ivs rr) v1) : BoxC wb (v1.alloc (.cells #[.int .i64 rl, .slice ra rr.length rc] T)) v1.heap.size rr ra rc :=
 ⟨Gr.step h (boxed _ _), zAB rfl rfl, fun d hd _ => by
  obtain ⟨b2, o2, e, hc⟩ := zFk r d hd
  exact ⟨b2, o2, e, zAJ hc⟩⟩
theorem zMs {wb v1 : World} {rl : Int} {rr : List Int} {ra : Option Addr} {rc : Nat} (h : Below wb.heap.size wb v1) (r : Sep.Reads ra (Gr.ivs rr) v1) (z0 : v1.cell? ⟨wb.heap.size, 0, none⟩ = some (.int .i64 0)) (z1 : v1.cell? ⟨wb.heap.size, 1, none⟩ = some (.slice none 0 0)) :
  BoxC wb ((v1.setCell ⟨wb.heap.size, 0, none⟩ (.int .i64 rl)).setCell ⟨wb.heap.size, 1, none⟩ (.slice ra rr.length rc)) wb.heap.size rr ra rc :=
 ⟨(h.setCell (Nat.le_refl _) _).setCell (Nat.le_refl _) _, World.cell?_setCell_same _ _ _ (by rw [World.cell?_setCell_other _ _ _ _ (fun q => by have := congrArg Addr.off q; simp at this)]; exact z1), fun d hd hne => by
  obtain ⟨b2, o2, e, hc⟩ := zFk r d hd
  refine ⟨b2, o2, e, ?_⟩
  rw [World.cell?_setCell_other _ _ _ _ (fun q => by
   rw [← q] at hc
   rw [hc] at z1
   cases z1), World.cell?_setCell_other _ _ _ _ (fun q => by
   rw [← q, z0] at hc
   injection hc with hc
   injection hc with _ hc
   exact hne hc.symm)]
  exact hc⟩
