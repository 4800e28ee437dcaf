/- A part of the proof. -/
import Derived.Test.YtbajcecncgdpmaaGreatDoorPk18
set_option maxHeartbeats 4000000
set_option maxRecDepth 100000
set_option linter.unusedVariables false
namespace Go.Proofs.YtbajcecncgdpmaaGreatDoor
namespace Im
open Go.RowKit Go.Maps
open Gr (Gram Sh gv GAt Box step checkN ofN ofL zGj ivs)
theorem zOP {a : Option Addr} {xs : List Value} {S : Nat -> Prop} {w w' : World} (h : Sep.Reads a xs w) (f : Sep.Fr S w w') (hn : ∀ b o, a = some ⟨b, o, none⟩ -> ¬ S b) : Sep.Reads a xs w' := fun i hi => by
 obtain ⟨b, o, e, hc⟩ := h i hi
 exact ⟨b, o, e, f.cell hc (hn b o e)⟩
structure Bo (W : World) (h : Sh) (G : Gram) (x : Itm) (d : Nat) (w : World) : Prop where
 fr : Sep.Fr (· = d) W w
 box : Box W.heap.size h G w
 i0 : w.cell? ⟨W.heap.size + 1, 0, none⟩ = some (.int .i64 x.1)
 i1 : w.cell? ⟨W.heap.size + 1, 1, none⟩ = some (.int .i64 x.2)
theorem Bo.start (h : Sh) (G : Gram) (x : Itm) (d : Nat) (w : World) (T U : TypeId) : Bo w h G x d ((w.alloc (.cells #[.slice h.a1 G.terms.length h.c1, .slice h.a2 G.nons.length h.c2, .slice h.a3 G.rules.length h.c3, .int .i64 G.start] T)).alloc (.cells #[.int .i64 x.1, .int .i64 x.2] U)) := by
 have k := Bi.start h G x w T U
 exact ⟨.of_below k.below, k.bx.box, k.i0, k.i1⟩
theorem Bo.later {W : World} {h : Sh} {G : Gram} {x : Itm} {d : Nat} {w w' : World} (k : Bo W h G x d w) (hd : d < W.heap.size) (f : Sep.Fr (· = d) w w') : Bo W h G x d w' := by
 have h0 : ¬ W.heap.size = d := by omega
 have h1 : ¬ W.heap.size + 1 = d := by omega
 exact ⟨k.fr.trans f (.refl _ _), ⟨f.cell k.box.x0 h0, f.cell k.box.x1 h0, f.cell k.box.x2 h0, f.cell k.box.x3 h0⟩, f.cell k.i0 h1, f.cell k.i1 h1⟩
theorem Bo.went {W : World} {h : Sh} {G : Gram} {x : Itm} {d : Nat} {w w' : World} (k : Bo W h G x d w) (hd : d < W.heap.size) (hb : Below w.heap.size w w') : Bo W h G x d w' := k.later hd (.of_below hb)
theorem zJH {G : Gram} {s : Int} {i : Nat} (h : i ∈ ofN G s) : i < G.rules.length := (Gr.zAp.1 h).1
theorem zGo {G : Gram} {d n : Nat} {X : Itm -> Prop} {x : Itm} {w : World} (hX : ∀ y, X y -> zAG G y = true) (hx : zAG G x = true) (h : MS d n (fun y => X y \/ y = x) w) : MS d (allI G).length (fun y => X y \/ y = x) w :=
 h.tight ktI (allI G) fun y _ hy => zBu (hy.elim (hX y) fun e => e ▸ hx)
theorem zFC (h : Sh) (G : Gram) (hv : checkN G = 0) (d : Nat) (x : Itm) (X : Itm -> Prop) (w : World) (hx : zAG G x = true) (hX : ∀ y, X y -> zAG G y = true) (hXx : X x) (hs : MS d (allI G).length X w) :
  Calls Tryz.prog 149 #[.map (some d), gv h G, iv x] w fun e w' => e = .returned (.tuple #[]) /\ ∃ Y, Sprd G X x Y /\ MS d (allI G).length Y w' /\ Sep.Fr (· = d) w w' := by
 have ha := zAe hv
 have hd := hs.lt
 have B := zSt (Bo.start h G x d w 25 57)
 have P := zSt (zCC x (zCD hv hx) d (allI G).length X _ (hs.went (Bi.start h G x w 25 57).below) (by unfold maxLen; omega))
 obtain ⟨x0, x1⟩ := x
 unfold gv iv at *
 dsimp only at B P ⊢
 go_enter Tryz.func149, Tryz.ntmps149
 go_wp2_with (go_at_call 170; refine P.out.mono ?_; rintro e w1 ⟨ok, hok, rfl, hm, hf⟩; obtain rfl : ok = false := (by cases ok with | false => rfl | true => exact absurd hXx (hok.1 rfl)); have PM := zSt hm; have PF := zSt hf; clear hm hf hok)
 refine bodyPost_ret (v := .tuple #[]) (by simp [results, Tryz.results149, go_sem]) rfl ?_
 exact ⟨rfl, _, .none hXx fun y => .rfl, zGo hX hx PM.out, B.out.fr.trans PF.out (.refl _ _)⟩
theorem zJh (h : Sh) (G : Gram) (hv : checkN G = 0) (W0 : World) (k : GAt h G W0) (d : Nat) (hd : W0.heap.size <= d) : ∀ (N : Nat) (M : List Itm) (x : Itm) (X : Itm -> Prop) (w : World), M.length <= N -> zAG G x = true -> (∀ y, X y -> zAG G y = true) -> (∀ y, zAG G y = true -> ¬ X y -> y ∈ M) ->
  Below W0.heap.size W0 w -> MS d (allI G).length X w ->
  Calls Tryz.prog 149 #[.map (some d), gv h G, iv x] w fun e w' => e = .returned (.tuple #[]) /\ ∃ Y, Sprd G X x Y /\ MS d (allI G).length Y w' /\ Sep.Fr (· = d) w w' := by
 have ha := zAe hv
 have hr3 := (zDd (Gr.zAT hv).1).1
 intro N
 induction N with
 | zero =>
  intro M x X w hM hx hX hm hb hs
  have hMe : M = [] := by cases M with | nil => rfl | cons _ _ => simp at hM
  subst hMe
  have hXx : X x := by
   rcases Classical.em (X x) with q | q
   ·exact q
   ·have := hm x hx q
    cases this
  exact zFC h G hv d x X w hx hX hXx hs
 | succ N ih =>
  intro M x X w hM hx hX hm hb hs
  rcases Classical.em (X x) with hXx | hXx
  ·exact zFC h G hv d x X w hx hX hXx hs
  have hMx := hm x hx hXx
  have hM' : (M.erase x).length <= N := by
   rw [List.length_erase_of_mem hMx]
   omega
  have hdw := hs.lt
  have B := zSt (Bo.start h G x d w 25 57)
  have P := zSt (zCC x (zCD hv hx) d (allI G).length X _ (hs.went (Bi.start h G x w 25 57).below) (by unfold maxLen; omega))
  have HB := zSt (fun w1 (f : Sep.Fr (· = d) w w1) => show Below W0.heap.size W0 w1 from hb.trans (f.below (fun i hi => by omega) hb.size))
  have HN := zSt (fun w1 (b : Below W0.heap.size W0 w1) => zIs h G x w1 (k.went b))
  have HO := zSt (fun w1 (b : Below W0.heap.size W0 w1) => zGj h G (behV G x) w1 (k.went b) (by omega))
  have IH := zSt (fun (r : Int) (Z : Itm -> Prop) w1 (b : Below W0.heap.size W0 w1) (hr : zAG G (r, 0) = true) (hZ : ∀ y, Z y -> zAG G y = true) (hZX : ∀ y, X y -> Z y) (hZx : Z x) (hz : MS d (allI G).length Z w1) => ih (M.erase x) (r, 0) Z w1 hM' hr hZ (fun y hy hn => (List.mem_erase_of_ne (fun e => hn (by rw [e]; exact hZx))).2 (hm y hy fun q => hn (hZX y q))) b hz)
  obtain ⟨e1, e2⟩ := zQH hx
  rw [e1, e2] at HN
  clear e1 e2 ih k hs hm hM hM' hMx
  generalize hnb : behB G x = nb at HN
  obtain ⟨x0, x1⟩ := x
  unfold gv iv at *
  dsimp only at B P ⊢
  go_enter Tryz.func149, Tryz.ntmps149
  go_wp2_with (first
   | (go_at_call 170; refine P.out.mono ?_; rintro e w1 ⟨ok, hok, rfl, hm, hf⟩; obtain rfl : ok = true := hok.2 hXx; have PM := zSt (zGo hX hx hm); have PB := zSt (B.out.later hdw hf); obtain ⟨⟨g0, g1, g2, g3⟩, y0, y1⟩ := (⟨PB.out.box, PB.out.i0, PB.out.i1⟩ : _ /\ _ /\ _); clear hm hf hok B P)
   | (go_at_call 171; refine (HN.out _ (HB.out _ PB.out.fr)).mono ?_; rintro e w2 ⟨rfl, hb2⟩; have QM := zSt (PM.out.went hb2); have QB := zSt (PB.out.went hdw hb2); obtain ⟨⟨g0, g1, g2, g3⟩, y0, y1⟩ := (⟨QB.out.box, QB.out.i0, QB.out.i1⟩ : _ /\ _ /\ _); clear hb2 PM PB)
   | (go_at_call 113; refine (HO.out _ (HB.out _ QB.out.fr)).mono ?_; rintro e w3 ⟨a3, c3, rfl, hr, hn, hb3⟩; have RM := zSt (QM.out.went hb3); have RB := zSt (QB.out.went hdw hb3); have RL := zSt hr; have RN := zSt (show ∀ b o, a3 = some ⟨b, o, none⟩ -> ¬ b = d from fun b o e => by have := hn _ e; have := QB.out.fr.size; dsimp only at *; omega); clear hr hn hb3 QM QB))
  clear HN HO
  have PS := zSt (Part.start (K := ofN G (behV G (x0, x1))) hx (fun y => (Iff.rfl : (X y \/ y = (x0, x1)) ↔ _)))
  have HK := zSt (fun j (hj : j < (ofN G (behV G (x0, x1))).length) => show (ofL G (behV G (x0, x1)))[j]'(by rw [Gr.zBI]; exact hj) = (((ofN G (behV G (x0, x1)))[j] : Nat) : Int) by simp [ofL, Gr.ofI, ofN])
  have hkl := Gr.zBI G (behV G (x0, x1))
  have hsm : (ofN G (behV G (x0, x1))).length <= 300 := by
   have := Gr.zLk G.rules (behV G (x0, x1)) G.rules.length
   rw [← hkl]
   exact Nat.le_trans this hr3
  rw [hkl]
  go_loopw [24] (fun i wr => ∃ j : Nat, j <= (ofN G (behV G (x0, x1))).length /\ i = .int .i64 j /\ Bo w h G (x0, x1) d wr /\ Sep.Reads a3 (ivs (ofL G (behV G (x0, x1)))) wr /\ ∃ Z, Part G X (x0, x1) (ofN G (behV G (x0, x1))) j Z /\ MS d (allI G).length Z wr) (fun i _ => (ofN G (behV G (x0, x1))).length - (intOf i).toNat)
  case atStart => exact ⟨0, Nat.zero_le _, rfl, RB.out, RL.out, _, PS.out, RM.out⟩
  case round =>
   obtain ⟨j, hj, rfl, hB, hL, Z, hP, hZ⟩ := hrel
   clear RB RL RM PS
   obtain ⟨⟨g0, g1, g2, g3⟩, y0, y1⟩ := (⟨hB.box, hB.i0, hB.i1⟩ : _ /\ _ /\ _)
   have B := zSt hB
   have L := zSt hL
   have PZ := zSt hP
   have MZ := zSt hZ
   by_cases hlt : j < (ofN G (behV G (x0, x1))).length
   ·obtain ⟨b, o, rfl, hc⟩ := hL j (by simp [ivs]; omega)
    have hk : (ivs (ofL G (behV G (x0, x1))))[j]'(by simp [ivs]; omega) = .int .i64 (((ofN G (behV G (x0, x1)))[j] : Nat) : Int) := by
     simp only [ivs, List.getElem_map, Gr.iv]
     rw [HK.out j hlt]
    rw [hk] at hc
    have PST := zSt (fun (Y : Itm -> Prop) => Part.step (Y := Y) hv hx hP hlt)
    have hkr : zAG G ((((ofN G (behV G (x0, x1)))[j] : Nat) : Int), 0) = true := zAv (Nat.le_of_lt (zJH (List.getElem_mem hlt)))
    have C := zSt (IH.out _ Z wr (HB.out _ hB.fr) hkr (hP.right hX) hP.old hP.own hZ)
    clear hk hL hP hZ hB hkr
    generalize (ofN G (behV G (x0, x1)))[j] = r at *
    go_wp2_with (go_at_call 149; refine C.out.mono ?_; rintro e w4 ⟨rfl, Y, hs, hm, hf⟩; have MY := zSt hm; have PY := zSt (PST.out Y hs); have BY := zSt (B.out.later hdw hf); have LY := zSt (zOP L.out hf RN.out); clear hs hm hf)
    go_roundw
    case rel => exact ⟨j + 1, by omega, by go_num, BY.out, LY.out, Y, PY.out, MY.out⟩
    case measure => simp [intOf]; omega
   ·have hE : j = (ofN G (behV G (x0, x1))).length := by omega
    subst hE
    go_wp2
    go_end0
    exact ⟨rfl, Z, PZ.out.done, MZ.out, B.out.fr⟩
