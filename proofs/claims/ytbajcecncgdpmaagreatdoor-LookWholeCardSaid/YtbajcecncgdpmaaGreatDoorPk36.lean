/- A part of the proof. -/
import Derived.Test.YtbajcecncgdpmaaGreatDoorPk35
import Derived.Test.YtbajcecncgdpmaaGreatDoorPk27
import Derived.Shelf.SlSortCmp.QuietGrown
import Derived.Deep.DeepCutAuto
set_option maxHeartbeats 2000000
set_option maxRecDepth 100000
set_option linter.unusedVariables false
namespace Go.Proofs.YtbajcecncgdpmaaGreatDoor
open Go.RowKit Go.Maps
namespace Im
open Gr (Gram Sh gv GAt Bx step boxed checkN zAA)
noncomputable def lst (G : Gram) (L : List Itm) : List Itm := if checkN G = 0 then L else []
theorem zCB {G : Gram} {L : List Itm} {x : Itm} : x ∈ lst G L ↔ checkN G = 0 /\ x ∈ L := by
 unfold lst
 by_cases h : checkN G = 0
 ·simp [h]
 ·simp [h]
theorem zRe {G : Gram} (h : checkN G = 0) (L : List Itm) : lst G L = L := if_pos h
theorem zQF {G : Gram} (h : ¬ checkN G = 0) (L : List Itm) : lst G L = [] := if_neg h
theorem zLR {G : Gram} {L : List Itm} (x : Itm) : VSet G L x ↔ (x ∈ lst G L /\ zAG G x = true) := by
 unfold VSet
 rw [zCB, and_assoc]
theorem zM2 {G : Gram} {x : Itm} (h : Clo G [] x) : False := by
 induction h with
 | of h _ => cases h
 | next _ _ _ ih => exact ih
theorem zPa {G : Gram} {L : List Itm} {x : Itm} : Clo G (lst G L) x ↔ checkN G = 0 /\ Clo G L x := by
 by_cases h : checkN G = 0
 ·rw [zRe h]
  exact ⟨fun k => ⟨h, k⟩, fun k => k.2⟩
 ·rw [zQF h]
  exact ⟨fun k => (zM2 k).elim, fun k => absurd k.1 h⟩
noncomputable def allL (G : Gram) : List Itm := if checkN G = 0 then allI G else []
theorem zH1 (G : Gram) : (allL G).length <= 2709 := by
 unfold allL
 by_cases h : checkN G = 0
 ·rw [if_pos h]
  exact zAe h
 ·rw [if_neg h]
  simp
theorem zNm {G : Gram} {x : Itm} (h : checkN G = 0) (hx : zAG G x = true) : x ∈ allL G := by
 unfold allL
 rw [if_pos h]
 exact zBu hx
theorem zDk.of {P Q : Itm -> Prop} {w w1 w' : World} {e : Ending} (h : zDk P w1 e w') (hb : Below w.heap.size w w1) (hi : ∀ x, P x ↔ Q x) : zDk Q w e w' := by
 obtain ⟨Y, a, c, h1, h2, h3, h4⟩ := h
 exact ⟨Y, a, c, h1, h2.iff hi, h3.mono hb.size, Gr.step hb h4⟩
structure Rnd (W : World) (h : Sh) (G : Gram) (d b r n q : Nat) (X Lf Z : Itm -> Prop) (m : Nat) (w : World) : Prop where
 bx : Bx W h G w
 run : MR b r n q X Lf w
 set : MS d m Z w
 d1 : W.heap.size + 1 <= d
 d2 : d < b
 d3 : d < r
theorem Rnd.later {W : World} {h : Sh} {G : Gram} {d b r n q m : Nat} {X Lf Z : Itm -> Prop} {w w' : World} (k : Rnd W h G d b r n q X Lf Z m w) (hb : Below w.heap.size w w') : Rnd W h G d b r n q X Lf Z m w' /\ w'.rangeLeft b r = w.rangeLeft b r :=
 ⟨⟨k.bx.went hb, k.run.went hb, k.set.went hb, k.d1, k.d2, k.d3⟩, MRan.left_keep (hb.block b k.run.lt.1) (hb.block r k.run.lt.2.1)⟩
theorem Rnd.wrote {W : World} {h : Sh} {G : Gram} {d b r n q m m' : Nat} {X Lf Z Z' : Itm -> Prop} {w w' : World} (k : Rnd W h G d b r n q X Lf Z m w) (f : Sep.Fr (· = d) w w') (hs : MS d m' Z' w') : Rnd W h G d b r n q X Lf Z' m' w' /\ w'.rangeLeft b r = w.rangeLeft b r := by
 have h1 := f.block b k.run.lt.1 (by have := k.d2; omega)
 have h2 := f.block r k.run.lt.2.1 (by have := k.d3; omega)
 exact ⟨⟨zEW k.bx f fun i hi => by have := k.d1; omega, k.run.keep h1 h2, hs, k.d1, k.d2, k.d3⟩, MRan.left_keep h1 h2⟩
theorem Rnd.next {W : World} {h : Sh} {G : Gram} {d b r n q m : Nat} {X Lf Lf' Z : Itm -> Prop} {w w' : World} (k : Rnd W h G d b r n q X Lf Z m w) (hg : w.grownBy w' (some r)) (hr : MR b r n (q + 1) X Lf' w') : Rnd W h G d b r n (q + 1) X Lf' Z m w' := by
 refine ⟨k.bx.grown hg fun g e => ?_, hr, k.set.keep (hg.block d k.set.lt fun e => ?_), k.d1, k.d2, k.d3⟩
 ·injection e with e
  have := k.d1
  have := k.d3
  omega
 ·injection e with e
  have := k.d3
  omega
theorem zKS (h : Sh) (G : Gram) (L : List Itm) (a : Option Addr) (c : Nat) (w : World) (k : GAt h G w) (kl : ItsA a L w) (hw : ∀ x ∈ L, W64 x) (hL : L.length <= 1000000) :
  Calls Tryz.prog 114 #[gv h G, .slice a L.length c] w (zDk (fun x => checkN G = 0 /\ Clo G L x) w) := by
 have X0 := zSt (Bx.start h G w 25)
 have V := zSt (fun w1 (b : Below w.heap.size w w1) => zMb h G L a c w1 (k.went b) (kl.went b) hw (by omega))
 have M0 := zSt (MSet.made (H := Nat) (w.alloc (.cells #[.slice h.a1 G.terms.length h.c1, .slice h.a2 G.nons.length h.c2, .slice h.a3 G.rules.length h.c3, .int .i64 G.start] 25)) Tryz.prog 57 unitElem (.agg []))
 have X1 := zSt (X0.out.alloc (.map #[] 0))
 have hs1 : (w.alloc (.cells #[.slice h.a1 G.terms.length h.c1, .slice h.a2 G.nons.length h.c2, .slice h.a3 G.rules.length h.c3, .int .i64 G.start] 25)).heap.size = w.heap.size + 1 := by simp
 have hs2 : ((w.alloc (.cells #[.slice h.a1 G.terms.length h.c1, .slice h.a2 G.nons.length h.c2, .slice h.a3 G.rules.length h.c3, .int .i64 G.start] 25)).alloc (.map #[] 0)).heap.size = w.heap.size + 2 := by simp
 rw [hs1] at M0
 have SP := zSt (fun (hv : checkN G = 0) (x : Itm) (Z : Itm -> Prop) w1 (b : Below w.heap.size w w1) (hx : zAG G x = true) (hZ : ∀ y, Z y -> zAG G y = true) (hz : MS (w.heap.size + 1) (allI G).length Z w1) => zJh h G hv w k (w.heap.size + 1) (by omega) (allI G).length (allI G) x Z w1 (Nat.le_refl _) hx hZ (fun y hy _ => zBu hy) b hz)
 clear k kl hw X0 hs1
 unfold gv at *
 have hmm := @run_makeMap Tryz.prog
 go_enter Tryz.func114, Tryz.ntmps114
 go_wp2_with (first
  | (go_at_call 148; refine (V.out _ X1.out.below).mono ?_; rintro e w1 ⟨b, n, rfl, hb1, hb2, hm, hb⟩; have X2 := zSt (X1.out.went hb); have Z2 := zSt (M0.out.went hb); have V2 := zSt hm; rw [hs2] at hb1; clear hm hb)
  | (at_range; refine zDO _ rfl _ rfl ktI Tryz.underlying190 (.agg []) b n _ rfl V2.out ?_; intro w2 hrg hg hsz)
  | go_in)
 have hX2s := X2.out.size
 have R0 := zSt (show Rnd w h G (w.heap.size + 1) b w1.heap.size n 0 _ _ (fun _ => False) (allI G).length w2 from
  ⟨X2.out.grown hg (fun g e => by cases e), hrg, (Z2.out.keep (hg.block _ Z2.out.lt (fun e => by cases e))).mono (Nat.zero_le _), Nat.le_refl _, by omega, by have := V2.out.lt; omega⟩)
 have P0 := zSt (Way.start (G := G) (L := lst G L) (X := VSet G L) (Z := fun _ => False) (fun y h1 h2 => (zLR y).2 ⟨h1, h2⟩) (fun _ => id))
 clear V X1 M0 X2 Z2 hrg hg hsz hs2 hX2s
 go_frame
 go_loopw [6] (fun _ wr => ∃ (q : Nat) (Lf Z : Itm -> Prop), Rnd w h G (w.heap.size + 1) b w1.heap.size n q (VSet G L) Lf Z (allI G).length wr /\ Way G (lst G L) Lf Z) (fun _ wr => wr.rangeLeft b w1.heap.size)
 case atStart => exact ⟨0, _, _, R0.out, P0.out⟩
 case round =>
  obtain ⟨q, Lf, Z, hR, hP⟩ := hrel
  clear R0 P0
  have HR := zSt hR
  have HP := zSt hP
  have hrg := hR.run
  clear hR hP
  go_wp2_with (first
   | (at_next; refine zDX _ rfl _ rfl ktI b w1.heap.size n q _ Lf rfl hrg ?_ ?_)
   | go_in)
  ·intro hd
   have hz : ∀ y, Z y ↔ checkN G = 0 /\ Clo G L y := fun y => (HP.out.done (fun y h1 h2 => hd y (zCD (zCB.1 h1).1 h2)) y).trans zPa
   have hzm : ∀ y, Z y -> y ∈ allL G := fun y hy => zNm ((hz y).1 hy).1 (HP.out.right y hy)
   have LS := zSt ((zCN (w.heap.size + 1) (allL G).length Z wr (HR.out.set.tight ktI (allL G) fun y _ hy => hzm y hy) (Nat.le_trans (zH1 G) (by omega)) (allL G) hzm (Nat.le_trans (zH1 G) (by omega))).mono fun e w' hl => zDk.of (Q := fun x => checkN G = 0 /\ Clo G L x) hl HR.out.bx.below fun x => ⟨fun q => (hz x).1 q.1, fun q => ⟨(hz x).2 q, zCD q.1 (zAS q.2)⟩⟩)
   have hB := HR.out.bx.below
   clear HR HP hrg hzm
   go_wp2_with (go_at_call 150; refine LS.out.mono ?_; rintro e w4 ⟨Y, a4, c4, rfl, h1, h2, h3⟩; have H1 := zSt h1; have H2 := zSt h2; have H3 := zSt h3; clear h1 h2 h3)
   go_ret
   exact ⟨Y, a4, c4, rfl, H1.out, H2.out, H3.out⟩
  ·intro x0 x1 w3 hx hlf hXx hrg2 hlt hg2 hs2 hen
   have hv := hXx.1
   have hR3 := HR.out.next hg2 hrg2
   obtain ⟨hR4, hl4⟩ := hR3.later (boxed w3 (.cells #[.int .i64 x0, .int .i64 x1] 57))
   obtain ⟨g0, g1, g2, g3⟩ := hR4.bx.box
   have y0 : (w3.alloc (.cells #[.int .i64 x0, .int .i64 x1] 57)).cell? ⟨w3.heap.size, 0, none⟩ = some (.int .i64 x0) := zAA rfl rfl
   have y1 : (w3.alloc (.cells #[.int .i64 x0, .int .i64 x1] 57)).cell? ⟨w3.heap.size, 1, none⟩ = some (.int .i64 x1) := zAA rfl rfl
   have R4 := zSt hR4
   have C := zSt (SP.out hv (x0, x1) Z _ hR4.bx.below hXx.2.2 HP.out.right hR4.set)
   have PS := zSt (fun (Y : Itm -> Prop) => HP.out.step (Y := Y) (x := (x0, x1)) ((zLR _).1 hXx).1 hXx.2.2)
   have hl5 : wr.rangeLeft b w1.heap.size > (w3.alloc (.cells #[.int .i64 x0, .int .i64 x1] 57)).rangeLeft b w1.heap.size := by rw [hl4]; exact hlt
   unfold iv at hen C ⊢
   dsimp only at hen C ⊢
   clear hR3 hR4 hl4 hlt hs2 hrg hrg2 HR HP hXx hlf hg2 hx
   go_wp2_with (go_at_call 149; refine C.out.mono ?_; rintro e w5 ⟨rfl, Y, hs, hm, hf⟩; obtain ⟨r5, l5⟩ := R4.out.wrote hf hm; have P5 := zSt (PS.out Y hs); have R5 := zSt r5; rw [← l5] at hl5; clear hs hm hf l5 r5)
   go_roundw
   case rel => exact ⟨_, _, Y, R5.out, P5.out⟩
   case measure => exact hl5
end Im
namespace Im
open Gr (Gram Sh gv GAt Bx checkN zBM)
theorem zHR {P : Itm -> Prop} {w w' : World} (h : ∀ x, ¬ P x) (hb : Below w.heap.size w w') : zDk P w (.returned (.slice none 0 0)) w' := ⟨[], none, 0, rfl, Is.nil h, ItsV.nil _ _ _, hb⟩
theorem zF6 (h : Sh) (G : Gram) (w : World) (k : GAt h G w) :
  Calls Tryz.prog 27 #[gv h G] w (zDk (fun x => checkN G = 0 /\ x = ((G.rules.length : Int), 0)) w) := by
 have C := zSt (fun w1 (b : Below w.heap.size w w1) => zBM h G w1 (k.went b))
 have A := zSt (fun w1 (b : Below w.heap.size w w1) => zFJ h G w1 (k.went b))
 clear k
 have X := zSt (Bx.start h G w 25)
 unfold gv at *
 by_cases hc : checkN G = 0
 ·rw [hc] at C
  go_enter Tryz.func27, Tryz.ntmps27
  go_wp2_with (first
   | (go_at_call 39; refine (C.out _ X.out.below).mono ?_; rintro e w1 ⟨rfl, hb⟩; have X1 := zSt (X.out.went hb); obtain ⟨g0, g1, g2, g3⟩ := X1.out.box; clear hb)
   | (go_at_call 60; refine (A.out _ X1.out.below).mono ?_; rintro e w2 ⟨rfl, hb⟩; have X2 := zSt (X1.out.went hb); clear hb))
  go_ret
  have hB := X2.out.below.size
  exact ⟨[((G.rules.length : Int), 0)], _, _, rfl, ⟨zEJ _, fun x => by rw [List.mem_singleton]; exact ⟨fun e => ⟨hc, e⟩, fun e => e.2⟩⟩, zDb 57 w.heap.size w2.heap.size ((G.rules.length : Int), 0) w2 rfl hB, (X2.out.alloc _).below⟩
 ·have hcb : (checkN G == 0) = false := by simpa using hc
  go_enter Tryz.func27, Tryz.ntmps27
  go_wp2_with (go_at_call 39; refine (C.out _ X.out.below).mono ?_; rintro e w1 ⟨rfl, hb⟩; have X1 := zSt (X.out.went hb); clear hb)
  go_ret
  exact zHR (fun x k => hc k.1) X1.out.below
def eqB (x y : Itm) : Bool := decide (x = y)
theorem zPl : Tryz.prog.underlying 57 = some (.struct (Tryz.prog.fieldsOf 57)) := by kernel_rfl
theorem zHD (a b c d : Int) (w : World) : (Op.equalIn 10000 57 (.agg #[.int .i64 a, .int .i64 b]) (.agg #[.int .i64 c, .int .i64 d])).run Tryz.prog w = .ok (eqB (a, b) (c, d)) w := by
 unfold eqB
 rw [show (10000 : Nat) = 9999 + 1 from rfl, run_equalIn_agg w 9999 57 _ _ zPl Tryz.stoodInHeld57]
 have u3 := Tryz.underlying3
 have a3 := Tryz.isAgg3
 have z3 := Tryz.sizeOf3
 simp only [Program.fieldsOf, Tryz.underlying57]
 go_simp
 by_cases h1 : a = c <;> by_cases h2 : b = d <;> simp [h1, h2]
theorem zNC (a b c d : Int) (w : World) : (binOp .eql 57 (.agg #[.int .i64 a, .int .i64 b]) (.agg #[.int .i64 c, .int .i64 d])).run Tryz.prog w = .ok (.bool (eqB (a, b) (c, d))) w := by
 rw [run_eql_struct, zHD]
 rfl
end Im
namespace Im
open Gr (Gram Sh gv GAt zAN zAB zC2 zAA zAJ cell_later zAD)
theorem zJa (h : Sh) (G : Gram) (x : Itm) (w : World) (k : GAt h G w) :
  Calls Tryz.prog 43 #[gv h G, iv x] w (Gr.Is (.bool (zAG G x)) w) := by
 have R := zSt (fun w1 (b : Below w.heap.size w w1) => zC2 h G x.1 w1 (k.went b))
 clear k
 rw [zFp]
 obtain ⟨xr, xd⟩ := x
 generalize zAB G (xr, xd).1 = r at R ⊢
 generalize zAN G (xr, xd).1 = rb at R ⊢
 have X := zSt (Bi.start h G (xr, xd) w 25 57)
 unfold gv iv
 dsimp only at R X ⊢
 go_enter Tryz.func43, Tryz.ntmps43
 go_wp2_with (go_at_call 12; refine (R.out _ X.out.below).mono ?_; rintro e w1 ⟨a, c, rfl, hr, hb⟩; have X := zSt ((X.out.went hb).alloc (.cells #[.int .i64 r.1, .slice a r.2.length c] 41)); have HR := zSt hr; have y0 := X.out.i0; have y1 := X.out.i1; clear hb hr)
 all_goals
  go_ret
  exact ⟨zAD (by first | (simp_all; done) | (simp_all; omega)), X.out.below⟩
theorem zF8 {G : Gram} {x : Itm} (h : zAG G x = true) : behB G x = decide (x.2 < ((zAB G x.1).2.length : Int)) := by
 unfold behB rlen
 rw [h, Bool.true_and]
theorem zEn {G : Gram} {x : Itm} (h : zAG G x = false) : behB G x = false := by
 unfold behB
 rw [h, Bool.false_and]
theorem zHd (h : Sh) (G : Gram) (x : Itm) (w : World) (k : GAt h G w) :
  Calls Tryz.prog 17 #[gv h G, iv x] w (Gr.Is (.tuple #[.int .i64 (behV G x), .bool (behB G x)]) w) := by
 have R := zSt (fun w1 (b : Below w.heap.size w w1) => zC2 h G x.1 w1 (k.went b))
 have RR := zSt (fun w1 (b : Below w.heap.size w w1) => zJa h G x w1 (k.went b))
 have HR := zSt (zAK (G := G) (x := x))
 have HT := zSt (zF8 (G := G) (x := x))
 have HF := zSt (zEn (G := G) (x := x))
 clear k
 unfold behV
 have X := zSt (Bi.start h G x w 25 57)
 unfold rlen at HR
 generalize zAB G x.1 = r at R HR HT ⊢
 generalize zAN G x.1 = rb at R ⊢
 generalize behB G x = bb at HT HF ⊢
 generalize zAG G x = rr at RR HR HT HF
 obtain ⟨xr, xd⟩ := x
 unfold gv iv at *
 dsimp only at R RR X HR HT HF ⊢
 cases rr with
 | false =>
  obtain rfl := HF.out rfl
  clear HT HF HR
  go_enter Tryz.func17, Tryz.ntmps17
  go_wp2_with (first
   | (go_at_call 12; refine (R.out _ X.out.below).mono ?_; rintro e w1 ⟨a, c, rfl, hr, hb⟩; have X1 := zSt ((X.out.went hb).alloc (.cells #[.int .i64 r.1, .slice a r.2.length c] 41)); have y0 := X1.out.i0; have y1 := X1.out.i1; obtain ⟨g0, g1, g2, g3⟩ := X1.out.bx.box; clear hb hr)
   | (go_at_call 43; refine (RR.out _ X1.out.below).mono ?_; rintro e w2 ⟨rfl, hb⟩; have X2 := zSt (X1.out.went hb); clear hb))
  go_ret2
  exact ⟨rfl, X2.out.below⟩
 | true =>
  have hbb := HT.out rfl
  obtain ⟨_, h1, _⟩ := HR.out.1 rfl
  replace h1 : 0 <= xd := h1
  clear HT HF HR
  by_cases hlt : xd < (r.2.length : Int)
  ·obtain ⟨j, rfl⟩ := Int.eq_ofNat_of_zero_le h1
   have hj : j < r.2.length := by omega
   rw [decide_eq_true hlt] at hbb
   subst hbb
   rw [if_pos rfl, show r.2.getD (Int.toNat (j : Int)) 0 = r.2[j] by simp [hj]]
   go_enter Tryz.func17, Tryz.ntmps17
   go_wp2_with (first
    | (go_at_call 12; refine (R.out _ X.out.below).mono ?_; rintro e w1 ⟨a, c, rfl, hr, hb⟩; have X1 := zSt ((X.out.went hb).alloc (.cells #[.int .i64 r.1, .slice a r.2.length c] 41)); have y0 := X1.out.i0; have y1 := X1.out.i1; obtain ⟨g0, g1, g2, g3⟩ := X1.out.bx.box; obtain ⟨b2, o2, e2, z⟩ := hr j (by simpa [Gr.ivs] using hj); subst e2; have z := zAJ (o := .cells #[.int .i64 r.1, .slice (some ⟨b2, o2, none⟩) r.2.length c] 41) z; clear hb hr)
    | (go_at_call 43; refine (RR.out _ X1.out.below).mono ?_; rintro e w2 ⟨rfl, hb⟩; have X2 := zSt (X1.out.went hb); have z := cell_later hb z; have y0 := X2.out.i0; have y1 := X2.out.i1; have r0 := cell_later hb (zAA (w := w1) (cs := #[.int .i64 r.1, .slice (some ⟨b2, o2, none⟩) r.2.length c]) (T := 41) (n := w1.heap.size) (j := 1) rfl rfl); clear hb))
   go_ret2
   exact ⟨by simp [Gr.ivs, Gr.iv], X2.out.below⟩
  ·rw [decide_eq_false hlt] at hbb
   subst hbb
   have h3 : (r.2.length : Int) <= xd := by omega
   go_enter Tryz.func17, Tryz.ntmps17
   go_wp2_with (first
    | (go_at_call 12; refine (R.out _ X.out.below).mono ?_; rintro e w1 ⟨a, c, rfl, hr, hb⟩; have X1 := zSt ((X.out.went hb).alloc (.cells #[.int .i64 r.1, .slice a r.2.length c] 41)); have y0 := X1.out.i0; have y1 := X1.out.i1; obtain ⟨g0, g1, g2, g3⟩ := X1.out.bx.box; clear hb hr)
    | (go_at_call 43; refine (RR.out _ X1.out.below).mono ?_; rintro e w2 ⟨rfl, hb⟩; have X2 := zSt (X1.out.went hb); have y0 := X2.out.i0; have y1 := X2.out.i1; have r0 := cell_later hb (zAA (w := w1) (cs := #[.int .i64 r.1, .slice a r.2.length c]) (T := 41) (n := w1.heap.size) (j := 1) rfl rfl); clear hb))
   go_ret2
   exact ⟨rfl, X2.out.below⟩
def zLL (x y : Itm) : Bool := decide (ltP x y)
theorem zL6 (x y : Itm) (w : World) : Calls Tryz.prog 80 #[iv x, iv y] w fun e w' => e = .returned (.bool (zLL x y)) /\ ∃ q os', w' = Go.Sort.grow (w.drewN q) os' := by
 unfold zLL ltP
 obtain ⟨x0, x1⟩ := x
 obtain ⟨y0, y1⟩ := y
 unfold iv
 dsimp only
 go_enter Tryz.func80, Tryz.ntmps80
 go_wp2
 all_goals
  go_ret
  exact ⟨zAD (by first | (simp; omega) | (simp_all; done) | (simp_all; omega)), ((Gw.refl w).alloc _).alloc _⟩
end Im
namespace Im
open Gr (Gram Sh GAt Bx boxed Fits zAA zAJ)
def GA : Gram := { terms := [⟨#[65]⟩, ⟨#[66]⟩], nons := [⟨#[115]⟩, ⟨#[116]⟩], rules := [(3, [4, 1]), (4, [2])], start := 3 }
def lw (W : World) : World :=
 ((((W.alloc (.cells #[.string ⟨#[65]⟩, .string ⟨#[66]⟩] 9)).alloc (.cells #[.string ⟨#[115]⟩, .string ⟨#[116]⟩] 9)).alloc (.cells #[.int .i64 4, .int .i64 1] 3)).alloc (.cells #[.int .i64 2] 3)).alloc
  (.cells #[.int .i64 3, .slice (some ⟨W.heap.size + 1 + 1, 0, none⟩) 2 2, .int .i64 4, .slice (some ⟨W.heap.size + 1 + 1 + 1, 0, none⟩) 1 1] 41)
def ah (W : World) : Sh := ⟨some ⟨W.heap.size, 0, none⟩, 2, some ⟨W.heap.size + 1, 0, none⟩, 2, some ⟨W.heap.size + 1 + 1 + 1 + 1, 0, none⟩, 2⟩
theorem zIK (W : World) : Below W.heap.size W (lw W) := Gr.step (Gr.step (Gr.step (Gr.step (boxed _ _) (boxed _ _)) (boxed _ _)) (boxed _ _)) (boxed _ _)
theorem zHU (W : World) : (lw W).heap.size = W.heap.size + 5 := by simp [lw]
theorem fitz (x : Int) (h : -1000 <= x) (k : x <= 1000) : Fits x := ⟨by omega, by omega⟩
theorem zRg (W : World) : GAt (ah W) GA (lw W) := by
 refine ⟨fun i hi => ?_, fun i hi => ?_, fun i hi => ?_, by simp [ah, GA], by simp [GA], by simp [GA], by simp [ah, GA], by simp [GA], ⟨?_, ?_, fitz _ (by decide) (by decide), ?_, ?_⟩⟩
 ·have h2 : i < 2 := hi
  refine ⟨W.heap.size, 0, rfl, ?_⟩
  have : i = 0 \/ i = 1 := by omega
  rcases this with rfl | rfl <;> exact zAJ (zAJ (zAJ (zAJ (zAA rfl rfl))))
 ·have h2 : i < 2 := hi
  refine ⟨W.heap.size + 1, 0, rfl, ?_⟩
  have : i = 0 \/ i = 1 := by omega
  rcases this with rfl | rfl <;> exact zAJ (zAJ (zAJ (zAA (by simp) rfl)))
 ·have h2 : i < 2 := hi
  have : i = 0 \/ i = 1 := by omega
  rcases this with rfl | rfl
  ·refine ⟨W.heap.size + 1 + 1 + 1 + 1, 0, some ⟨W.heap.size + 1 + 1, 0, none⟩, 2, rfl, zAA (by simp) rfl, zAA (by simp) rfl, fun j hj => ?_, by simp [GA], by simp [GA]⟩
   have h3 : j < 2 := hj
   refine ⟨W.heap.size + 1 + 1, 0, rfl, ?_⟩
   have : j = 0 \/ j = 1 := by omega
   rcases this with rfl | rfl <;> exact zAJ (zAJ (zAA (by simp) rfl))
  ·refine ⟨W.heap.size + 1 + 1 + 1 + 1, 0, some ⟨W.heap.size + 1 + 1 + 1, 0, none⟩, 1, rfl, zAA (by simp) rfl, zAA (by simp) rfl, fun j hj => ?_, by simp [GA], by simp [GA]⟩
   have h3 : j < 1 := hj
   obtain rfl : j = 0 := by omega
   exact ⟨W.heap.size + 1 + 1 + 1, 0, rfl, zAJ (zAA (by simp) rfl)⟩
 ·intro s hs
  simp only [GA, List.mem_cons, List.not_mem_nil, or_false] at hs
  rcases hs with rfl | rfl <;> simp [ByteArray.size]
 ·intro s hs
  simp only [GA, List.mem_cons, List.not_mem_nil, or_false] at hs
  rcases hs with rfl | rfl <;> simp [ByteArray.size]
 ·intro r hr
  simp only [GA, List.mem_cons, List.not_mem_nil, or_false] at hr
  rcases hr with rfl | rfl <;> exact fitz _ (by decide) (by decide)
 ·intro r hr x hx
  simp only [GA, List.mem_cons, List.not_mem_nil, or_false] at hr
  rcases hr with rfl | rfl
  ·simp only [List.mem_cons, List.not_mem_nil, or_false] at hx
   rcases hx with rfl | rfl <;> exact fitz _ (by decide) (by decide)
  ·simp only [List.mem_cons, List.not_mem_nil, or_false] at hx
   subst hx
   exact fitz _ (by decide) (by decide)
abbrev gl (W : World) : Value := .agg #[.slice (some ⟨W.heap.size, 0, none⟩) 2 2, .slice (some ⟨W.heap.size + 1, 0, none⟩) 2 2, .slice (some ⟨W.heap.size + 1 + 1 + 1 + 1, 0, none⟩) 2 2, .int .i64 3]
theorem zO2 {W w : World} (X : Bx (lw W) (ah W) GA w) : w.cell? ⟨W.heap.size + 1 + 1 + 1 + 1 + 1, 0, none⟩ = some (.slice (some ⟨W.heap.size, 0, none⟩) 2 2) /\ w.cell? ⟨W.heap.size + 1 + 1 + 1 + 1 + 1, 1, none⟩ = some (.slice (some ⟨W.heap.size + 1, 0, none⟩) 2 2) /\
  w.cell? ⟨W.heap.size + 1 + 1 + 1 + 1 + 1, 2, none⟩ = some (.slice (some ⟨W.heap.size + 1 + 1 + 1 + 1, 0, none⟩) 2 2) /\ w.cell? ⟨W.heap.size + 1 + 1 + 1 + 1 + 1, 3, none⟩ = some (.int .i64 3) := by
 have h := X.box
 rw [zHU] at h
 exact ⟨h.x0, h.x1, h.x2, h.x3⟩
theorem zEU (w : World) : (Instr.buildSlice 49 0 #[]).run Tryz.prog w = .ok (.slice (some ⟨w.heap.size, 0, none⟩) 0 0) (w.alloc (.cells #[] 57)) := by kernel_rfl
theorem zCu (w : World) (o : Obj) : (w.alloc o).heap[w.heap.size]? = some o := World.alloc_heap_new _ _
theorem zFZ {w : World} {o : Obj} {q : Nat} (h : q = w.heap.size) : (w.alloc o).heap[q]? = some o := by
 subst h
 exact zCu _ _
theorem zFa {w : World} {o o' : Obj} {q : Nat} (h : w.heap[q]? = some o') : (w.alloc o).heap[q]? = some o' := by
 rw [Below.heap_alloc _ _ _ (Array.getElem?_eq_some_iff.1 h).1]
 exact h
theorem zLN {w : World} {base q : Nat} {x : Itm} (hq : w.heap[q]? = some (.cells #[.int .i64 x.1, .int .i64 x.2] 57 (0, 0))) (hb : base <= q) : w.ownsRow base 57 2 (.slice (some ⟨q, 0, none⟩) 1 1) 1 (ic x) :=
 ⟨by simp [ic], .inr ⟨q, 1, _, rfl, hb, hq, Nat.le_refl _, by unfold maxLen; omega, by simp, by simp [ic]⟩⟩
def inB (x : Itm) (E : List Itm) (k : Nat) : Bool := decide (x ∈ E.take k)
