/- A part of the proof. -/
import Derived.Test.YtnfbjlainpenaaaGreatPk13
import Derived.Test.YtnfbjlainpenaaaGreatPk28
set_option maxHeartbeats 4000000
set_option maxRecDepth 100000
set_option linter.unusedVariables false
namespace Go.Proofs.YtnfbjlainpenaaaGreat
open Go.RowKit Go.Maps
namespace Im
open Gr (Gram Sh gv GAt Bx boxed checkN zAz zAB cell_later)
theorem zHp {W w w' : World} {h : Sh} {G : Gram} {S : Nat -> Prop} (k : Bx W h G w) (f : Sep.Fr S w w') (hS : ∀ i, S i -> W.heap.size + 1 <= i) : Bx W h G w' := by
 have hn : ¬ S W.heap.size := fun h => by have := hS _ h; omega
 exact ⟨k.below.trans (f.below (fun i hi => by have := hS i hi; omega) k.below.size), ⟨f.cell k.box.x0 hn, f.cell k.box.x1 hn, f.cell k.box.x2 hn, f.cell k.box.x3 hn⟩⟩
def VTo (G : Gram) (L : List Itm) (j : Nat) (x : Itm) : Prop := ∃ q, ∃ h : q < L.length, q < j /\ x = L[q] /\ zAC G L[q] = true
theorem zM7 {G : Gram} {L : List Itm} {x : Itm} : VTo G L 0 x ↔ False := ⟨fun ⟨_, _, h, _⟩ => by omega, False.elim⟩
theorem zMX {G : Gram} {L : List Itm} {j : Nat} (hj : j < L.length) (hr : zAC G L[j] = true) (x : Itm) : VTo G L j x \/ x = L[j] ↔ VTo G L (j + 1) x := by
 constructor
 ·rintro (⟨q, h1, h2, h3⟩ | e)
  ·exact ⟨q, h1, by omega, h3⟩
  ·exact ⟨j, hj, by omega, e, hr⟩
 ·rintro ⟨q, h1, h2, h3, h4⟩
  by_cases e : q = j
  ·subst e
   exact .inr h3
  ·exact .inl ⟨q, h1, by omega, h3, h4⟩
theorem zK4 {G : Gram} {L : List Itm} {j : Nat} (hj : j < L.length) (hr : ¬ zAC G L[j] = true) (x : Itm) : VTo G L j x ↔ VTo G L (j + 1) x := by
 constructor
 ·rintro ⟨q, h1, h2, h3⟩
  exact ⟨q, h1, by omega, h3⟩
 ·rintro ⟨q, h1, h2, h3, h4⟩
  by_cases e : q = j
  ·subst e
   exact absurd h4 hr
  ·exact ⟨q, h1, by omega, h3, h4⟩
theorem zMW {G : Gram} {L : List Itm} (x : Itm) : VTo G L L.length x ↔ x ∈ L /\ zAC G x = true := by
 constructor
 ·rintro ⟨q, h1, _, h3, h4⟩
  subst h3
  exact ⟨List.getElem_mem h1, h4⟩
 ·rintro ⟨h1, h2⟩
  obtain ⟨q, hq, rfl⟩ := List.getElem_of_mem h1
  exact ⟨q, hq, hq, rfl, h2⟩
def VSet (G : Gram) (L : List Itm) (x : Itm) : Prop := checkN G = 0 /\ x ∈ L /\ zAC G x = true
def zND (X : Itm -> Prop) (m : Nat) (w : World) (e : Ending) (w' : World) : Prop :=
 ∃ b n, e = .returned (.map (some b)) /\ w.heap.size <= b /\ n <= m /\ MS b n X w' /\ Below w.heap.size w w'
theorem zJY (h : Sh) (G : Gram) (L : List Itm) (a : Option Addr) (c : Nat) (w : World) (k : GAt h G w) (kl : ItsA a L w) (hw : ∀ x ∈ L, W64 x) (hL : L.length <= 8796093022208) :
  Calls Tryz.prog 105 #[gv h G, .slice a L.length c] w (zND (VSet G L) L.length w) := by
 have X := zNR (Bx.start h G w 25)
 have C := zNR (fun w1 (b : Below w.heap.size w w1) => zAz h G w1 (k.went b))
 have F := zNR (fun (x : Itm) w1 (b : Below w.heap.size w w1) => zJw h G x w1 (k.went b))
 have KL := zNR (fun w1 (b : Below w.heap.size w w1) => kl.went b)
 have HW := zNR hw
 have M0 := zNR (MSet.made (H := Nat) (w.alloc (.cells #[.slice h.a1 G.terms.length h.c1, .slice h.a2 G.nons.length h.c2, .slice h.a3 G.rules.length h.c3, .int .i64 G.start] 25)) Tryz.prog 108 unitElem (.agg []))
 have X1 := zNR (X.out.alloc (.map #[] 0))
 have hs1 : (w.alloc (.cells #[.slice h.a1 G.terms.length h.c1, .slice h.a2 G.nons.length h.c2, .slice h.a3 G.rules.length h.c3, .int .i64 G.start] 25)).heap.size = w.heap.size + 1 := by simp
 rw [hs1] at M0
 clear k kl hw X hs1
 by_cases hc : checkN G = 0
 ·rw [hc] at C
  unfold gv at C F ⊢
  have hmm := @run_makeMap Tryz.prog
  go_enter Tryz.func105, Tryz.ntmps105
  go_wp2_with (go_at_call 37; refine (C.out _ X1.out.below).mono ?_; rintro e w1 ⟨rfl, hb⟩; have X := zNR (X1.out.went hb); have M := zNR (M0.out.went hb); clear hb X1 M0)
  go_loopw [15] (fun i wr => ∃ j : Nat, j <= L.length /\ i = .int .i64 j /\ Bx w h G wr /\ ∃ n ≤ j, MS (w.heap.size + 1) n (VTo G L j) wr) (fun i _ => L.length - (intOf i).toNat)
  case atStart => exact ⟨0, Nat.zero_le _, rfl, X.out, 0, Nat.le_refl _, M.out.iff fun x _ => zM7.symm⟩
  case round =>
   obtain ⟨j, hj, rfl, hX, n, hn, hM⟩ := hrel
   clear X M
   have X := zNR hX
   have M := zNR hM
   clear hX hM
   by_cases hlt : j < L.length
   ·obtain ⟨b, o, rfl, c0, c1⟩ := (KL.out wr X.out.below).at j hlt
    have hx := HW.out _ (List.getElem_mem hlt)
    have HH := zNR (fun q => zMX (G := G) (L := L) (j := j) hlt q)
    have HM := zNR (fun q => zK4 (G := G) (L := L) (j := j) hlt q)
    have e1 : ((L[j].1, L[j].2) : Itm) = L[j] := rfl
    generalize L[j] = x at *
    obtain ⟨x0, x1⟩ := x
    dsimp only at c0 c1
    have FX := zNR (F.out (x0, x1) _ (X.out.alloc (.cells #[.int .i64 x0, .int .i64 x1] 108)).below)
    have XA := zNR (X.out.alloc (.cells #[.int .i64 x0, .int .i64 x1] 108))
    have y0 : (wr.alloc (.cells #[.int .i64 x0, .int .i64 x1] 108)).cell? ⟨wr.heap.size, 0, none⟩ = some (.int .i64 x0) := zAB rfl rfl
    have y1 : (wr.alloc (.cells #[.int .i64 x0, .int .i64 x1] 108)).cell? ⟨wr.heap.size, 1, none⟩ = some (.int .i64 x1) := zAB rfl rfl
    have MA := zNR (M.out.went (boxed wr (.cells #[.int .i64 x0, .int .i64 x1] 108)))
    have e2 : (VTo G L j (x0, x1)) = VTo G L j (x0, x1) := rfl
    obtain ⟨g0, g1, g2, g3⟩ := XA.out.box
    clear X M e1 e2
    by_cases hr : zAC G (x0, x1) = true
    ·rw [hr] at FX
     unfold iv at FX
     go_wp2_with (first
      | (go_at_call 120; refine FX.out.mono ?_; rintro e w2 ⟨rfl, hb⟩; have X := zNR (XA.out.went hb); have M := zNR (MA.out.went hb); have z0 := cell_later hb y0; have z1 := cell_later hb y1; have PA := zNR (zFY (x0, x1) hx (w.heap.size + 1) n (VTo G L j) w2 M.out (by unfold maxLen; omega)); clear hb)
      | (go_at_call 121; refine PA.out.mono ?_; rintro e w3 ⟨ok, _, rfl, hm, hf⟩; have MB := zNR hm; have XB := zNR (zHp X.out hf fun i hi => by omega); clear hm hf))
     go_roundw
     case rel => exact ⟨j + 1, by omega, by go_num, XB.out, n + 1, by omega, MB.out.iff fun x _ => HH.out hr x⟩
     case measure => simp [intOf]; omega
    ·have hr' : zAC G (x0, x1) = false := by simpa using hr
     rw [hr'] at FX
     unfold iv at FX
     go_wp2_with (go_at_call 120; refine FX.out.mono ?_; rintro e w2 ⟨rfl, hb⟩; have X := zNR (XA.out.went hb); have M := zNR (MA.out.went hb); clear hb)
     go_roundw
     case rel => exact ⟨j + 1, by omega, by go_num, X.out, n, by omega, M.out.iff fun x _ => HM.out hr x⟩
     case measure => simp [intOf]; omega
   ·have hE : j = L.length := by omega
    subst hE
    go_wp2
    go_ret
    refine ⟨_, n, rfl, by omega, hn, M.out.iff fun x _ => ?_, X.out.below⟩
    rw [zMW]
    exact ⟨fun h => ⟨hc, h⟩, fun h => h.2⟩
 ·have hb : (checkN G == 0) = false := by simpa using hc
  unfold gv at C ⊢
  have hmm := @run_makeMap Tryz.prog
  go_enter Tryz.func105, Tryz.ntmps105
  go_wp2_with (go_at_call 37; refine (C.out _ X1.out.below).mono ?_; rintro e w1 ⟨rfl, hb⟩; have X := zNR (X1.out.went hb); have M := zNR (M0.out.went hb); clear hb X1 M0)
  go_ret
  exact ⟨_, 0, rfl, by omega, Nat.zero_le _, M.out.iff fun x _ => ⟨False.elim, fun h => hc h.1⟩, X.out.below⟩
end Im
namespace Im
open Gr (Gram Sh gv GAt Box step checkN ofN ofL zCW ivs)
theorem zKe {a : Option Addr} {xs : List Value} {S : Nat -> Prop} {w w' : World} (h : Sep.Reads a xs w) (f : Sep.Fr S w w') (hn : ∀ b o, a = some ⟨b, o, none⟩ -> ¬ S b) : Sep.Reads a xs w' := fun i hi => by
 obtain ⟨b, o, e, hc⟩ := h i hi
 exact ⟨b, o, e, f.cell hc (hn b o e)⟩
structure Bo (W : World) (h : Sh) (G : Gram) (x : Itm) (d : Nat) (w : World) : Prop where
 fr : Sep.Fr (· = d) W w
 box : Box W.heap.size h G w
 i0 : w.cell? ⟨W.heap.size + 1, 0, none⟩ = some (.int .i64 x.1)
 i1 : w.cell? ⟨W.heap.size + 1, 1, none⟩ = some (.int .i64 x.2)
theorem Bo.start (h : Sh) (G : Gram) (x : Itm) (d : Nat) (w : World) (T U : TypeId) : Bo w h G x d ((w.alloc (.cells #[.slice h.a1 G.terms.length h.c1, .slice h.a2 G.nons.length h.c2, .slice h.a3 G.rules.length h.c3, .int .i64 G.start] T)).alloc (.cells #[.int .i64 x.1, .int .i64 x.2] U)) := by
 have k := Bi.start h G x w T U
 exact ⟨.of_below k.below, k.bx.box, k.i0, k.i1⟩
theorem Bo.later {W : World} {h : Sh} {G : Gram} {x : Itm} {d : Nat} {w w' : World} (k : Bo W h G x d w) (hd : d < W.heap.size) (f : Sep.Fr (· = d) w w') : Bo W h G x d w' := by
 have h0 : ¬ W.heap.size = d := by omega
 have h1 : ¬ W.heap.size + 1 = d := by omega
 exact ⟨k.fr.trans f (.refl _ _), ⟨f.cell k.box.x0 h0, f.cell k.box.x1 h0, f.cell k.box.x2 h0, f.cell k.box.x3 h0⟩, f.cell k.i0 h1, f.cell k.i1 h1⟩
theorem Bo.went {W : World} {h : Sh} {G : Gram} {x : Itm} {d : Nat} {w w' : World} (k : Bo W h G x d w) (hd : d < W.heap.size) (hb : Below w.heap.size w w') : Bo W h G x d w' := k.later hd (.of_below hb)
theorem zG2 {G : Gram} {s : Int} {i : Nat} (h : i ∈ ofN G s) : i < G.rules.length := (Gr.zCo.1 h).1
theorem zEq {G : Gram} {d n : Nat} {X : Itm -> Prop} {x : Itm} {w : World} (hX : ∀ y, X y -> zAC G y = true) (hx : zAC G x = true) (h : MS d n (fun y => X y \/ y = x) w) : MS d (allI G).length (fun y => X y \/ y = x) w :=
 h.tight ktI (allI G) fun y _ hy => zCn (hy.elim (hX y) fun e => e ▸ hx)
theorem zDh (h : Sh) (G : Gram) (hv : checkN G = 0) (d : Nat) (x : Itm) (X : Itm -> Prop) (w : World) (hx : zAC G x = true) (hX : ∀ y, X y -> zAC G y = true) (hXx : X x) (hs : MS d (allI G).length X w) :
  Calls Tryz.prog 106 #[.map (some d), gv h G, iv x] w fun e w' => e = .returned (.tuple #[]) /\ ∃ Y, Sprd G X x Y /\ MS d (allI G).length Y w' /\ Sep.Fr (· = d) w w' := by
 have ha := zAS hv
 have hd := hs.lt
 have B := zNR (Bo.start h G x d w 25 108)
 have P := zNR (zFY x (zBb hv hx) d (allI G).length X _ (hs.went (Bi.start h G x w 25 108).below) (by unfold maxLen; omega))
 obtain ⟨x0, x1⟩ := x
 unfold gv iv at *
 dsimp only at B P ⊢
 go_enter Tryz.func106, Tryz.ntmps106
 go_wp2_with (go_at_call 121; refine P.out.mono ?_; rintro e w1 ⟨ok, hok, rfl, hm, hf⟩; obtain rfl : ok = false := (by cases ok with | false => rfl | true => exact absurd hXx (hok.1 rfl)); have PM := zNR hm; have PF := zNR hf; clear hm hf hok)
 refine bodyPost_ret (v := .tuple #[]) (by simp [results, Tryz.results106, go_sem]) rfl ?_
 exact ⟨rfl, _, .none hXx fun y => .rfl, zEq hX hx PM.out, B.out.fr.trans PF.out (.refl _ _)⟩
theorem zHP (h : Sh) (G : Gram) (hv : checkN G = 0) (W0 : World) (k : GAt h G W0) (d : Nat) (hd : W0.heap.size <= d) : ∀ (N : Nat) (M : List Itm) (x : Itm) (X : Itm -> Prop) (w : World), M.length <= N -> zAC G x = true -> (∀ y, X y -> zAC G y = true) -> (∀ y, zAC G y = true -> ¬ X y -> y ∈ M) ->
  Below W0.heap.size W0 w -> MS d (allI G).length X w ->
  Calls Tryz.prog 106 #[.map (some d), gv h G, iv x] w fun e w' => e = .returned (.tuple #[]) /\ ∃ Y, Sprd G X x Y /\ MS d (allI G).length Y w' /\ Sep.Fr (· = d) w w' := by
 have ha := zAS hv
 have hr3 := (zB4 (Gr.zAc hv).1).1
 intro N
 induction N with
 | zero =>
  intro M x X w hM hx hX hm hb hs
  have hMe : M = [] := by cases M with | nil => rfl | cons _ _ => simp at hM
  subst hMe
  have hXx : X x := by
   rcases Classical.em (X x) with q | q
   ·exact q
   ·have := hm x hx q
    cases this
  exact zDh h G hv d x X w hx hX hXx hs
 | succ N ih =>
  intro M x X w hM hx hX hm hb hs
  rcases Classical.em (X x) with hXx | hXx
  ·exact zDh h G hv d x X w hx hX hXx hs
  have hMx := hm x hx hXx
  have hM' : (M.erase x).length <= N := by
   rw [List.length_erase_of_mem hMx]
   omega
  have hdw := hs.lt
  have B := zNR (Bo.start h G x d w 25 108)
  have P := zNR (zFY x (zBb hv hx) d (allI G).length X _ (hs.went (Bi.start h G x w 25 108).below) (by unfold maxLen; omega))
  have HB := zNR (fun w1 (f : Sep.Fr (· = d) w w1) => show Below W0.heap.size W0 w1 from hb.trans (f.below (fun i hi => by omega) hb.size))
  have HN := zNR (fun w1 (b : Below W0.heap.size W0 w1) => zGk h G x w1 (k.went b))
  have HO := zNR (fun w1 (b : Below W0.heap.size W0 w1) => zCW h G (behV G x) w1 (k.went b) (by omega))
  have IH := zNR (fun (r : Int) (Z : Itm -> Prop) w1 (b : Below W0.heap.size W0 w1) (hr : zAC G (r, 0) = true) (hZ : ∀ y, Z y -> zAC G y = true) (hZX : ∀ y, X y -> Z y) (hZx : Z x) (hz : MS d (allI G).length Z w1) => ih (M.erase x) (r, 0) Z w1 hM' hr hZ (fun y hy hn => (List.mem_erase_of_ne (fun e => hn (by rw [e]; exact hZx))).2 (hm y hy fun q => hn (hZX y q))) b hz)
  obtain ⟨e1, e2⟩ := zLy hx
  rw [e1, e2] at HN
  clear e1 e2 ih k hs hm hM hM' hMx
  generalize hnb : behB G x = nb at HN
  obtain ⟨x0, x1⟩ := x
  unfold gv iv at *
  dsimp only at B P ⊢
  go_enter Tryz.func106, Tryz.ntmps106
  go_wp2_with (first
   | (go_at_call 121; refine P.out.mono ?_; rintro e w1 ⟨ok, hok, rfl, hm, hf⟩; obtain rfl : ok = true := hok.2 hXx; have PM := zNR (zEq hX hx hm); have PB := zNR (B.out.later hdw hf); obtain ⟨⟨g0, g1, g2, g3⟩, y0, y1⟩ := (⟨PB.out.box, PB.out.i0, PB.out.i1⟩ : _ /\ _ /\ _); clear hm hf hok B P)
   | (go_at_call 122; refine (HN.out _ (HB.out _ PB.out.fr)).mono ?_; rintro e w2 ⟨rfl, hb2⟩; have QM := zNR (PM.out.went hb2); have QB := zNR (PB.out.went hdw hb2); obtain ⟨⟨g0, g1, g2, g3⟩, y0, y1⟩ := (⟨QB.out.box, QB.out.i0, QB.out.i1⟩ : _ /\ _ /\ _); clear hb2 PM PB)
   | (go_at_call 93; refine (HO.out _ (HB.out _ QB.out.fr)).mono ?_; rintro e w3 ⟨a3, c3, rfl, hr, hn, hb3⟩; have RM := zNR (QM.out.went hb3); have RB := zNR (QB.out.went hdw hb3); have RL := zNR hr; have RN := zNR (show ∀ b o, a3 = some ⟨b, o, none⟩ -> ¬ b = d from fun b o e => by have := hn _ e; have := QB.out.fr.size; dsimp only at *; omega); clear hr hn hb3 QM QB))
  clear HN HO
  have PS := zNR (Part.start (K := ofN G (behV G (x0, x1))) hx (fun y => (Iff.rfl : (X y \/ y = (x0, x1)) ↔ _)))
  have HK := zNR (fun j (hj : j < (ofN G (behV G (x0, x1))).length) => show (ofL G (behV G (x0, x1)))[j]'(by rw [Gr.zAw]; exact hj) = (((ofN G (behV G (x0, x1)))[j] : Nat) : Int) by simp [ofL, Gr.ofI, ofN])
  have hkl := Gr.zAw G (behV G (x0, x1))
  have hsm : (ofN G (behV G (x0, x1))).length <= 300 := by
   have := Gr.zIp G.rules (behV G (x0, x1)) G.rules.length
   rw [← hkl]
   exact Nat.le_trans this hr3
  rw [hkl]
  go_loopw [24] (fun i wr => ∃ j : Nat, j <= (ofN G (behV G (x0, x1))).length /\ i = .int .i64 j /\ Bo w h G (x0, x1) d wr /\ Sep.Reads a3 (ivs (ofL G (behV G (x0, x1)))) wr /\ ∃ Z, Part G X (x0, x1) (ofN G (behV G (x0, x1))) j Z /\ MS d (allI G).length Z wr) (fun i _ => (ofN G (behV G (x0, x1))).length - (intOf i).toNat)
  case atStart => exact ⟨0, Nat.zero_le _, rfl, RB.out, RL.out, _, PS.out, RM.out⟩
  case round =>
   obtain ⟨j, hj, rfl, hB, hL, Z, hP, hZ⟩ := hrel
   clear RB RL RM PS
   obtain ⟨⟨g0, g1, g2, g3⟩, y0, y1⟩ := (⟨hB.box, hB.i0, hB.i1⟩ : _ /\ _ /\ _)
   have B := zNR hB
   have L := zNR hL
   have PZ := zNR hP
   have MZ := zNR hZ
   by_cases hlt : j < (ofN G (behV G (x0, x1))).length
   ·obtain ⟨b, o, rfl, hc⟩ := hL j (by simp [ivs]; omega)
    have hk : (ivs (ofL G (behV G (x0, x1))))[j]'(by simp [ivs]; omega) = .int .i64 (((ofN G (behV G (x0, x1)))[j] : Nat) : Int) := by
     simp only [ivs, List.getElem_map, Gr.iv]
     rw [HK.out j hlt]
    rw [hk] at hc
    have PST := zNR (fun (Y : Itm -> Prop) => Part.step (Y := Y) hv hx hP hlt)
    have hkr : zAC G ((((ofN G (behV G (x0, x1)))[j] : Nat) : Int), 0) = true := zBl (Nat.le_of_lt (zG2 (List.getElem_mem hlt)))
    have C := zNR (IH.out _ Z wr (HB.out _ hB.fr) hkr (hP.right hX) hP.old hP.own hZ)
    clear hk hL hP hZ hB hkr
    generalize (ofN G (behV G (x0, x1)))[j] = r at *
    go_wp2_with (go_at_call 106; refine C.out.mono ?_; rintro e w4 ⟨rfl, Y, hs, hm, hf⟩; have MY := zNR hm; have PY := zNR (PST.out Y hs); have BY := zNR (B.out.later hdw hf); have LY := zNR (zKe L.out hf RN.out); clear hs hm hf)
    go_roundw
    case rel => exact ⟨j + 1, by omega, by go_num, BY.out, LY.out, Y, PY.out, MY.out⟩
    case measure => simp [intOf]; omega
   ·have hE : j = (ofN G (behV G (x0, x1))).length := by omega
    subst hE
    go_wp2
    go_end0
    exact ⟨rfl, Z, PZ.out.done, MZ.out, B.out.fr⟩
