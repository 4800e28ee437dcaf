/- A part of the proof. -/
import Derived.Test.YtnfbjlainpenaaaGreatPk29
import Derived.Deep.OwnRows
import Derived.Test.YtnfbjlainpenaaaGreatPk34
set_option maxHeartbeats 2000000
set_option maxRecDepth 100000
set_option linter.unusedVariables false
namespace Go.Proofs.YtnfbjlainpenaaaGreat
open Go.RowKit Go.Maps
namespace Im
open Gr (Gram Sh gv GAt Bx step boxed checkN zAB)
noncomputable def lst (G : Gram) (L : List Itm) : List Itm := if checkN G = 0 then L else []
theorem zIe {G : Gram} {L : List Itm} {x : Itm} : x ∈ lst G L ↔ checkN G = 0 /\ x ∈ L := by
 unfold lst
 by_cases h : checkN G = 0
 ·simp [h]
 ·simp [h]
theorem zMt {G : Gram} (h : checkN G = 0) (L : List Itm) : lst G L = L := if_pos h
theorem zLx {G : Gram} (h : ¬ checkN G = 0) (L : List Itm) : lst G L = [] := if_neg h
theorem zIa {G : Gram} {L : List Itm} (x : Itm) : VSet G L x ↔ (x ∈ lst G L /\ zAC G x = true) := by
 unfold VSet
 rw [zIe, and_assoc]
theorem zJr {G : Gram} {x : Itm} (h : Clo G [] x) : False := by
 induction h with
 | of h _ => cases h
 | next _ _ _ ih => exact ih
theorem zLW {G : Gram} {L : List Itm} {x : Itm} : Clo G (lst G L) x ↔ checkN G = 0 /\ Clo G L x := by
 by_cases h : checkN G = 0
 ·rw [zMt h]
  exact ⟨fun k => ⟨h, k⟩, fun k => k.2⟩
 ·rw [zLx h]
  exact ⟨fun k => (zJr k).elim, fun k => absurd k.1 h⟩
noncomputable def allL (G : Gram) : List Itm := if checkN G = 0 then allI G else []
theorem zFp (G : Gram) : (allL G).length <= 2709 := by
 unfold allL
 by_cases h : checkN G = 0
 ·rw [if_pos h]
  exact zAS h
 ·rw [if_neg h]
  simp
theorem zKJ {G : Gram} {x : Itm} (h : checkN G = 0) (hx : zAC G x = true) : x ∈ allL G := by
 unfold allL
 rw [if_pos h]
 exact zCn hx
theorem zCS.of {P Q : Itm -> Prop} {w w1 w' : World} {e : Ending} (h : zCS P w1 e w') (hb : Below w.heap.size w w1) (hi : ∀ x, P x ↔ Q x) : zCS Q w e w' := by
 obtain ⟨Y, a, c, h1, h2, h3, h4⟩ := h
 exact ⟨Y, a, c, h1, h2.iff hi, h3.mono hb.size, Gr.step hb h4⟩
structure Rnd (W : World) (h : Sh) (G : Gram) (d b r n q : Nat) (X Lf Z : Itm -> Prop) (m : Nat) (w : World) : Prop where
 bx : Bx W h G w
 run : MR b r n q X Lf w
 set : MS d m Z w
 d1 : W.heap.size + 1 <= d
 d2 : d < b
 d3 : d < r
theorem Rnd.later {W : World} {h : Sh} {G : Gram} {d b r n q m : Nat} {X Lf Z : Itm -> Prop} {w w' : World} (k : Rnd W h G d b r n q X Lf Z m w) (hb : Below w.heap.size w w') : Rnd W h G d b r n q X Lf Z m w' /\ w'.rangeLeft b r = w.rangeLeft b r :=
 ⟨⟨k.bx.went hb, k.run.went hb, k.set.went hb, k.d1, k.d2, k.d3⟩, MRan.left_keep (hb.block b k.run.lt.1) (hb.block r k.run.lt.2.1)⟩
theorem Rnd.wrote {W : World} {h : Sh} {G : Gram} {d b r n q m m' : Nat} {X Lf Z Z' : Itm -> Prop} {w w' : World} (k : Rnd W h G d b r n q X Lf Z m w) (f : Sep.Fr (· = d) w w') (hs : MS d m' Z' w') : Rnd W h G d b r n q X Lf Z' m' w' /\ w'.rangeLeft b r = w.rangeLeft b r := by
 have h1 := f.block b k.run.lt.1 (by have := k.d2; omega)
 have h2 := f.block r k.run.lt.2.1 (by have := k.d3; omega)
 exact ⟨⟨zHp k.bx f fun i hi => by have := k.d1; omega, k.run.keep h1 h2, hs, k.d1, k.d2, k.d3⟩, MRan.left_keep h1 h2⟩
theorem Rnd.next {W : World} {h : Sh} {G : Gram} {d b r n q m : Nat} {X Lf Lf' Z : Itm -> Prop} {w w' : World} (k : Rnd W h G d b r n q X Lf Z m w) (hg : w.grownBy w' (some r)) (hr : MR b r n (q + 1) X Lf' w') : Rnd W h G d b r n (q + 1) X Lf' Z m w' := by
 refine ⟨k.bx.grown hg fun g e => ?_, hr, k.set.keep (hg.block d k.set.lt fun e => ?_), k.d1, k.d2, k.d3⟩
 ·injection e with e
  have := k.d1
  have := k.d3
  omega
 ·injection e with e
  have := k.d3
  omega
theorem zHu (h : Sh) (G : Gram) (L : List Itm) (a : Option Addr) (c : Nat) (w : World) (k : GAt h G w) (kl : ItsA a L w) (hw : ∀ x ∈ L, W64 x) (hL : L.length <= 1000000) :
  Calls Tryz.prog 94 #[gv h G, .slice a L.length c] w (zCS (fun x => checkN G = 0 /\ Clo G L x) w) := by
 have X0 := zNR (Bx.start h G w 25)
 have V := zNR (fun w1 (b : Below w.heap.size w w1) => zJY h G L a c w1 (k.went b) (kl.went b) hw (by omega))
 have M0 := zNR (MSet.made (H := Nat) (w.alloc (.cells #[.slice h.a1 G.terms.length h.c1, .slice h.a2 G.nons.length h.c2, .slice h.a3 G.rules.length h.c3, .int .i64 G.start] 25)) Tryz.prog 108 unitElem (.agg []))
 have X1 := zNR (X0.out.alloc (.map #[] 0))
 have hs1 : (w.alloc (.cells #[.slice h.a1 G.terms.length h.c1, .slice h.a2 G.nons.length h.c2, .slice h.a3 G.rules.length h.c3, .int .i64 G.start] 25)).heap.size = w.heap.size + 1 := by simp
 have hs2 : ((w.alloc (.cells #[.slice h.a1 G.terms.length h.c1, .slice h.a2 G.nons.length h.c2, .slice h.a3 G.rules.length h.c3, .int .i64 G.start] 25)).alloc (.map #[] 0)).heap.size = w.heap.size + 2 := by simp
 rw [hs1] at M0
 have SP := zNR (fun (hv : checkN G = 0) (x : Itm) (Z : Itm -> Prop) w1 (b : Below w.heap.size w w1) (hx : zAC G x = true) (hZ : ∀ y, Z y -> zAC G y = true) (hz : MS (w.heap.size + 1) (allI G).length Z w1) => zHP h G hv w k (w.heap.size + 1) (by omega) (allI G).length (allI G) x Z w1 (Nat.le_refl _) hx hZ (fun y hy _ => zCn hy) b hz)
 clear k kl hw X0 hs1
 unfold gv at *
 have hmm := @run_makeMap Tryz.prog
 go_enter Tryz.func94, Tryz.ntmps94
 go_wp2_with (first
  | (go_at_call 105; refine (V.out _ X1.out.below).mono ?_; rintro e w1 ⟨b, n, rfl, hb1, hb2, hm, hb⟩; have X2 := zNR (X1.out.went hb); have Z2 := zNR (M0.out.went hb); have V2 := zNR hm; rw [hs2] at hb1; clear hm hb)
  | (at_range; refine zCQ _ rfl _ rfl ktI Tryz.underlying149 (.agg []) b n _ rfl V2.out ?_; intro w2 hrg hg hsz)
  | go_in)
 have hX2s := X2.out.size
 have R0 := zNR (show Rnd w h G (w.heap.size + 1) b w1.heap.size n 0 _ _ (fun _ => False) (allI G).length w2 from
  ⟨X2.out.grown hg (fun g e => by cases e), hrg, (Z2.out.keep (hg.block _ Z2.out.lt (fun e => by cases e))).mono (Nat.zero_le _), Nat.le_refl _, by omega, by have := V2.out.lt; omega⟩)
 have P0 := zNR (Way.start (G := G) (L := lst G L) (X := VSet G L) (Z := fun _ => False) (fun y h1 h2 => (zIa y).2 ⟨h1, h2⟩) (fun _ => id))
 clear V X1 M0 X2 Z2 hrg hg hsz hs2 hX2s
 go_frame
 go_loopw [6] (fun _ wr => ∃ (q : Nat) (Lf Z : Itm -> Prop), Rnd w h G (w.heap.size + 1) b w1.heap.size n q (VSet G L) Lf Z (allI G).length wr /\ Way G (lst G L) Lf Z) (fun _ wr => wr.rangeLeft b w1.heap.size)
 case atStart => exact ⟨0, _, _, R0.out, P0.out⟩
 case round =>
  obtain ⟨q, Lf, Z, hR, hP⟩ := hrel
  clear R0 P0
  have HR := zNR hR
  have HP := zNR hP
  have hrg := hR.run
  clear hR hP
  go_wp2_with (first
   | (at_next; refine zCc _ rfl _ rfl ktI b w1.heap.size n q _ Lf rfl hrg ?_ ?_)
   | go_in)
  ·intro hd
   have hz : ∀ y, Z y ↔ checkN G = 0 /\ Clo G L y := fun y => (HP.out.done (fun y h1 h2 => hd y (zBb (zIe.1 h1).1 h2)) y).trans zLW
   have hzm : ∀ y, Z y -> y ∈ allL G := fun y hy => zKJ ((hz y).1 hy).1 (HP.out.right y hy)
   have LS := zNR ((zKG (w.heap.size + 1) (allL G).length Z wr (HR.out.set.tight ktI (allL G) fun y _ hy => hzm y hy) (Nat.le_trans (zFp G) (by omega)) (allL G) hzm (Nat.le_trans (zFp G) (by omega))).mono fun e w' hl => zCS.of (Q := fun x => checkN G = 0 /\ Clo G L x) hl HR.out.bx.below fun x => ⟨fun q => (hz x).1 q.1, fun q => ⟨(hz x).2 q, zBb q.1 (zA0 q.2)⟩⟩)
   have hB := HR.out.bx.below
   clear HR HP hrg hzm
   go_wp2_with (go_at_call 107; refine LS.out.mono ?_; rintro e w4 ⟨Y, a4, c4, rfl, h1, h2, h3⟩; have H1 := zNR h1; have H2 := zNR h2; have H3 := zNR h3; clear h1 h2 h3)
   go_ret
   exact ⟨Y, a4, c4, rfl, H1.out, H2.out, H3.out⟩
  ·intro x0 x1 w3 hx hlf hXx hrg2 hlt hg2 hs2 hen
   have hv := hXx.1
   have hR3 := HR.out.next hg2 hrg2
   obtain ⟨hR4, hl4⟩ := hR3.later (boxed w3 (.cells #[.int .i64 x0, .int .i64 x1] 108))
   obtain ⟨g0, g1, g2, g3⟩ := hR4.bx.box
   have y0 : (w3.alloc (.cells #[.int .i64 x0, .int .i64 x1] 108)).cell? ⟨w3.heap.size, 0, none⟩ = some (.int .i64 x0) := zAB rfl rfl
   have y1 : (w3.alloc (.cells #[.int .i64 x0, .int .i64 x1] 108)).cell? ⟨w3.heap.size, 1, none⟩ = some (.int .i64 x1) := zAB rfl rfl
   have R4 := zNR hR4
   have C := zNR (SP.out hv (x0, x1) Z _ hR4.bx.below hXx.2.2 HP.out.right hR4.set)
   have PS := zNR (fun (Y : Itm -> Prop) => HP.out.step (Y := Y) (x := (x0, x1)) ((zIa _).1 hXx).1 hXx.2.2)
   have hl5 : wr.rangeLeft b w1.heap.size > (w3.alloc (.cells #[.int .i64 x0, .int .i64 x1] 108)).rangeLeft b w1.heap.size := by rw [hl4]; exact hlt
   unfold iv at hen C ⊢
   dsimp only at hen C ⊢
   clear hR3 hR4 hl4 hlt hs2 hrg hrg2 HR HP hXx hlf hg2 hx
   go_wp2_with (go_at_call 106; refine C.out.mono ?_; rintro e w5 ⟨rfl, Y, hs, hm, hf⟩; obtain ⟨r5, l5⟩ := R4.out.wrote hf hm; have P5 := zNR (PS.out Y hs); have R5 := zNR r5; rw [← l5] at hl5; clear hs hm hf l5 r5)
   go_roundw
   case rel => exact ⟨_, _, Y, R5.out, P5.out⟩
   case measure => exact hl5
end Im
namespace Au
open Gr (Gram Sh gv GAt checkN boxed zAB zAF)
open Im
theorem zKH (n k : Nat) (h : k < n) (z : Value) : (madeCells #[z] n)[k]? = some z := by
 simp [madeCells, h, Nat.mod_one]
theorem zId (n : Nat) (hn : n <= 10000) (w : World) :
  (Instr.makeSlice 85 (.int .i64 (n : Int)) (.int .i64 (n : Int))).run Tryz.prog w = .ok (.slice (some ⟨w.heap.size, 0, none⟩) n n) (w.alloc (.cells (madeCells #[.slice none 0 0] n) 50)) :=
 run_make_row' 85 50 (.slice none 0 0) 24 Tryz.underlying85 zFy rfl .i64 .i64 n (by omega) (by omega) w
theorem zLb (n m : Nat) (w w' : World) (hm : w.heap.size < m) (hw : m <= w'.heap.size) (hb : w'.heap[w.heap.size]? = (w.alloc (.cells (madeCells #[.slice none 0 0] n) 50)).heap[w.heap.size]?) : Fam 108 w.heap.size m n (fun _ => []) (fun _ => .slice none 0 0) w' := by
 have B := Rw.Bk.new w (madeCells #[.slice none 0 0] n) 50 _ rfl
 exact ⟨fun s hs => (World.cell?_of_block (a := ⟨w.heap.size, s, none⟩) hb).trans (B.cell (zKH n s hs _)), fun j => (World.frozen?_of_block (a := ⟨w.heap.size, j, none⟩) hb).trans (B.free j), fun s _ => ItsV.nil _ _ _, fun s r _ _ _ g e => by simp [Value.ownBlock] at e, hm, hw⟩
def zJg (Y : List Itm) (w : World) (e : Ending) (w' : World) : Prop := ∃ a c, e = .returned (.slice a Y.length c) /\ ItsV 108 w.heap.size Y (.slice a Y.length c) w' /\ Below w.heap.size w w'
theorem zGo (h : Sh) (G : Gram) (hv : checkN G = 0) (L : List Itm) (a : Option Addr) (c : Nat) (w : World) (k : GAt h G w) (kl : ItsA a L w) (hw : ∀ x ∈ L, W64 x) (hL : L.length <= 1000000) :
  Calls Tryz.prog 94 #[gv h G, .slice a L.length c] w (zJg (clL G L) w) := by
 refine (zHu h G L a c w k kl hw hL).mono ?_
 rintro e w' ⟨Y, a', c', rfl, h1, h2, h3⟩
 have : Y = clL G L := (h1.iff (Q := Clo G L) fun x => ⟨fun q => q.2, fun q => ⟨hv, q⟩⟩).uniq (zEf G L)
 subst this
 exact ⟨a', c', rfl, h2, h3⟩
def zJm (F : Nat -> List Itm) (n : Nat) (w : World) (e : Ending) (w' : World) : Prop := ∃ b c, e = .returned (.slice (some ⟨b, 0, none⟩) n c) /\ w.heap.size <= b /\ b < w'.heap.size /\
 (∀ s, s < n -> ∃ a c', w'.cell? ⟨b, s, none⟩ = some (.slice a (F s).length c') /\ (F s).length <= c' /\ ItsA a (F s) w' /\ ∀ b' o, a = some ⟨b', o, none⟩ -> w.heap.size <= b') /\ Below w.heap.size w w'
theorem zH2 {G : Gram} {c : List Itm} {k : Nat} (hk : k < c.length) (hb : behB G c[k] = true) {s : Nat} (hs : behV G c[k] = (s : Int)) (r : Nat) :
  upd (fun r : Nat => zAb G (c.take k) (r : Int)) s (zAb G (c.take k) (s : Int) ++ [(c[k].1, c[k].2 + 1)]) r = zAb G (c.take (k + 1)) (r : Int) := by
 rw [List.take_succ_eq_append_getElem hk, zDj]
 by_cases e : r = s
 ·subst e
  rw [upd_same, if_pos ⟨hb, hs⟩]
 ·rw [zAM e, if_neg, List.append_nil]
  rintro ⟨_, q⟩
  omega
theorem zJv {G : Gram} {c : List Itm} {k : Nat} (hk : k < c.length) (hb : behB G c[k] = false) (r : Int) : zAb G (c.take k) r = zAb G (c.take (k + 1)) r := by
 rw [List.take_succ_eq_append_getElem hk, zDj, if_neg, List.append_nil]
 rintro ⟨q, _⟩
 rw [hb] at q
 cases q
structure StR (W w w2 : World) (b n : Nat) (a : Option Addr) (G : Gram) (C : List Itm) (k : Nat) (D : Nat -> Value) (wr : World) : Prop where
 fam : Fam 108 b w2.heap.size n (fun s => zAb G (C.take k) (s : Int)) D wr
 fr : Sep.Fr (· = b) w2 wr
theorem StR.below {W w w2 wr : World} {b n k : Nat} {a : Option Addr} {G : Gram} {C : List Itm} {D : Nat -> Value} (h : StR W w w2 b n a G C k D wr) (hb : w.heap.size <= b) (h2 : Below w.heap.size w w2) : Below w.heap.size w wr :=
 h2.trans (h.fr.below (fun i hi => by omega) h2.size)
theorem StR.went {W w w2 wr wx : World} {b n k : Nat} {a : Option Addr} {G : Gram} {C : List Itm} {D : Nat -> Value} (h : StR W w w2 b n a G C k D wr) (hb : Below wr.heap.size wr wx) : StR W w w2 b n a G C k D wx :=
 ⟨h.fam.went hb, Rw.zH8 h.fr hb⟩
structure BoxC (wb wc : World) (rb : Nat) (rr : List Int) (ra : Option Addr) (rc : Nat) : Prop where
 below : Below wb.heap.size wb wc
 cell : wc.cell? ⟨rb, 1, none⟩ = some (.slice ra rr.length rc)
 at_ : ∀ d (hd : d < rr.length), rr[d] ≠ 0 -> ∃ b2 o2, ra = some ⟨b2, o2, none⟩ /\ wc.cell? ⟨b2, o2 + d, none⟩ = some (.int .i64 rr[d])
theorem zEt {ra : Option Addr} {rr : List Int} {w : World} (h : Sep.Reads ra (Gr.ivs rr) w) (d : Nat) (hd : d < rr.length) : ∃ b2 o2, ra = some ⟨b2, o2, none⟩ /\ w.cell? ⟨b2, o2 + d, none⟩ = some (.int .i64 rr[d]) := by
 obtain ⟨b2, o2, e, hc⟩ := h d (by simpa [Gr.ivs] using hd)
 exact ⟨b2, o2, e, by simpa [Gr.ivs, Gr.iv] using hc⟩
theorem zLS {wb v1 : World} {rl : Int} {rr : List Int} {ra : Option Addr} {rc : Nat} (T : TypeId) (h : Below wb.heap.size wb v1) (r : Sep.Reads ra (Gr.ivs rr) v1) : BoxC wb (v1.alloc (.cells #[.int .i64 rl, .slice ra rr.length rc] T)) v1.heap.size rr ra rc :=
 ⟨Gr.step h (boxed _ _), zAB rfl rfl, fun d hd _ => by
  obtain ⟨b2, o2, e, hc⟩ := zEt r d hd
  exact ⟨b2, o2, e, zAF hc⟩⟩
theorem zLT {wb v1 : World} {rl : Int} {rr : List Int} {ra : Option Addr} {rc : Nat} (h : Below wb.heap.size wb v1) (r : Sep.Reads ra (Gr.ivs rr) v1) (z0 : v1.cell? ⟨wb.heap.size, 0, none⟩ = some (.int .i64 0)) (z1 : v1.cell? ⟨wb.heap.size, 1, none⟩ = some (.slice none 0 0)) :
  BoxC wb ((v1.setCell ⟨wb.heap.size, 0, none⟩ (.int .i64 rl)).setCell ⟨wb.heap.size, 1, none⟩ (.slice ra rr.length rc)) wb.heap.size rr ra rc :=
 ⟨(h.setCell (Nat.le_refl _) _).setCell (Nat.le_refl _) _, World.cell?_setCell_same _ _ _ (by rw [World.cell?_setCell_other _ _ _ _ (fun q => by have := congrArg Addr.off q; simp at this)]; exact z1), fun d hd hne => by
  obtain ⟨b2, o2, e, hc⟩ := zEt r d hd
  refine ⟨b2, o2, e, ?_⟩
  rw [World.cell?_setCell_other _ _ _ _ (fun q => by
   rw [← q] at hc
   rw [hc] at z1
   cases z1), World.cell?_setCell_other _ _ _ _ (fun q => by
   rw [← q, z0] at hc
   injection hc with hc
   injection hc with _ hc
   exact hne hc.symm)]
  exact hc⟩
