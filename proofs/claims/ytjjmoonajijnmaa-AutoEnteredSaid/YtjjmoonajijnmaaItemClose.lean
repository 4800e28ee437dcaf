/-
  Package item: Close: the closure of a list, in order.
-/
import Derived.Test.YtjjmoonajijnmaaMItemV
import Derived.Test.YtjjmoonajijnmaaItemList
namespace Go.Proofs.Ytjjmoonajijnmaa.Im
open Go.RowKit Go.Maps
open Go.Proofs.Ytjjmoonajijnmaa.Gr (Gram Sh gv GAt Bx Box step boxed drawn checkN cell_new cell_old cell_later free_new free_old)
set_option linter.unusedVariables false

/-- The list, of a grammar that may be. -/
noncomputable def lst (G : Gram) (L : List Itm) : List Itm := if checkN G = 0 then L else []
theorem mem_lst {G : Gram} {L : List Itm} {x : Itm} : x ∈ lst G L ↔ checkN G = 0 ∧ x ∈ L := by
  unfold lst
  by_cases h : checkN G = 0
  · simp [h]
  · simp [h]
theorem lst_ok {G : Gram} (h : checkN G = 0) (L : List Itm) : lst G L = L := if_pos h
theorem lst_not {G : Gram} (h : ¬ checkN G = 0) (L : List Itm) : lst G L = [] := if_neg h
theorem lst_set {G : Gram} {L : List Itm} (x : Itm) : VSet G L x ↔ (x ∈ lst G L ∧ rightB G x = true) := by
  unfold VSet
  rw [mem_lst, and_assoc]

theorem clo_none {G : Gram} {x : Itm} (h : Clo G [] x) : False := by
  induction h with
  | of h _ => cases h
  | next _ _ _ ih => exact ih
theorem clo_lst {G : Gram} {L : List Itm} {x : Itm} : Clo G (lst G L) x ↔ checkN G = 0 ∧ Clo G L x := by
  by_cases h : checkN G = 0
  · rw [lst_ok h]
    exact ⟨fun k => ⟨h, k⟩, fun k => k.2⟩
  · rw [lst_not h]
    exact ⟨fun k => (clo_none k).elim, fun k => absurd k.1 h⟩
/-- All right items of a grammar that may be. -/
noncomputable def allL (G : Gram) : List Itm := if checkN G = 0 then allI G else []
theorem allL_len (G : Gram) : (allL G).length ≤ 2709 := by
  unfold allL
  by_cases h : checkN G = 0
  · rw [if_pos h]
    exact all_small h
  · rw [if_neg h]
    simp
theorem mem_allL {G : Gram} {x : Itm} (h : checkN G = 0) (hx : rightB G x = true) : x ∈ allL G := by
  unfold allL
  rw [if_pos h]
  exact mem_all hx
theorem ListIs.of {P Q : Itm → Prop} {w w1 w' : World} {e : Ending} (h : ListIs P w1 e w') (hb : Below w.heap.size w w1) (hi : ∀ x, P x ↔ Q x) : ListIs Q w e w' := by
  obtain ⟨Y, a, c, h1, h2, h3, h4⟩ := h
  exact ⟨Y, a, c, h1, h2.iff hi, h3.mono hb.size, Gr.step hb h4⟩

theorem grown_below {w w' : World} {row : Option Nat} {m : Nat} (hg : w.grownBy w' row) (hm : m ≤ w.heap.size) (hr : ∀ k, row = some k → m ≤ k) : Below m w w' :=
  ⟨hg.os, hg.tape, hg.output, hg.size, fun i hi => hg.block i (by omega) fun e => by have := hr i e.symm; omega⟩

/-- What is known between two rounds of a loop over the set in block b, which writes the set in block d. -/
structure Rnd (W : World) (h : Sh) (G : Gram) (d b r n q : Nat) (X Lf Z : Itm → Prop) (m : Nat) (w : World) : Prop where
  bx : Bx W h G w
  run : MR b r n q X Lf w
  set : MS d m Z w
  d1 : W.heap.size + 1 ≤ d
  d2 : d < b
  d3 : d < r
theorem Rnd.later {W : World} {h : Sh} {G : Gram} {d b r n q m : Nat} {X Lf Z : Itm → Prop} {w w' : World} (k : Rnd W h G d b r n q X Lf Z m w) (hb : Below w.heap.size w w') : Rnd W h G d b r n q X Lf Z m w' ∧ w'.rangeLeft b r = w.rangeLeft b r :=
  ⟨⟨k.bx.went hb, k.run.went hb, k.set.went hb, k.d1, k.d2, k.d3⟩, MRan.left_keep (hb.block b k.run.lt.1) (hb.block r k.run.lt.2.1)⟩
/-- Behind a write of the set in block d. -/
theorem Rnd.wrote {W : World} {h : Sh} {G : Gram} {d b r n q m m' : Nat} {X Lf Z Z' : Itm → Prop} {w w' : World} (k : Rnd W h G d b r n q X Lf Z m w) (f : Sep.Fr (· = d) w w') (hs : MS d m' Z' w') : Rnd W h G d b r n q X Lf Z' m' w' ∧ w'.rangeLeft b r = w.rangeLeft b r := by
  have h1 := f.block b k.run.lt.1 (by have := k.d2; omega)
  have h2 := f.block r k.run.lt.2.1 (by have := k.d3; omega)
  exact ⟨⟨bx_fr k.bx f fun i hi => by have := k.d1; omega, k.run.keep h1 h2, hs, k.d1, k.d2, k.d3⟩, MRan.left_keep h1 h2⟩
/-- A step. -/
theorem Rnd.next {W : World} {h : Sh} {G : Gram} {d b r n q m : Nat} {X Lf Lf' Z : Itm → Prop} {w w' : World} (k : Rnd W h G d b r n q X Lf Z m w) (hg : w.grownBy w' (some r)) (hr : MR b r n (q + 1) X Lf' w') : Rnd W h G d b r n (q + 1) X Lf' Z m w' := by
  refine ⟨k.bx.grown hg fun g e => ?_, hr, k.set.keep (hg.block d k.set.lt fun e => ?_), k.d1, k.d2, k.d3⟩
  · injection e with e
    have := k.d1
    have := k.d3
    omega
  · injection e with e
    have := k.d3
    omega

set_option maxRecDepth 100000 in
set_option maxHeartbeats 2000000 in
theorem close_any (h : Sh) (G : Gram) (L : List Itm) (a : Option Addr) (c : Nat) (w : World) (k : GAt h G w) (kl : ItsA a L w) (hw : ∀ x ∈ L, W64 x) (hL : L.length ≤ 1000000) :
    Calls Try.prog 54 #[gv h G, .slice a L.length c] w (ListIs (fun x => checkN G = 0 ∧ Clo G L x) w) := by
  have X0 := Lib.hid (Bx.start h G w 36)
  have V := Lib.hid (fun w1 (b : Below w.heap.size w w1) => valid_any h G L a c w1 (k.went b) (kl.went b) hw (by omega))
  have M0 := Lib.hid (MSet.made (H := Nat) (w.alloc (.cells #[.slice h.a1 G.terms.length h.c1, .slice h.a2 G.nons.length h.c2, .slice h.a3 G.rules.length h.c3, .int .i64 G.start] 36)) Try.prog 51 unitElem (.agg []))
  have X1 := Lib.hid (X0.out.alloc (.map #[] 0))
  have hs1 : (w.alloc (.cells #[.slice h.a1 G.terms.length h.c1, .slice h.a2 G.nons.length h.c2, .slice h.a3 G.rules.length h.c3, .int .i64 G.start] 36)).heap.size = w.heap.size + 1 := by simp
  have hs2 : ((w.alloc (.cells #[.slice h.a1 G.terms.length h.c1, .slice h.a2 G.nons.length h.c2, .slice h.a3 G.rules.length h.c3, .int .i64 G.start] 36)).alloc (.map #[] 0)).heap.size = w.heap.size + 2 := by simp
  rw [hs1] at M0
  have SP := Lib.hid (fun (hv : checkN G = 0) (x : Itm) (Z : Itm → Prop) w1 (b : Below w.heap.size w w1) (hx : rightB G x = true) (hZ : ∀ y, Z y → rightB G y = true) (hz : MS (w.heap.size + 1) (allI G).length Z w1) => spread_any h G hv w k (w.heap.size + 1) (by omega) (allI G).length (allI G) x Z w1 (Nat.le_refl _) hx hZ (fun y hy _ => mem_all hy) b hz)
  clear k kl hw X0 hs1
  unfold gv at *
  have hmm := @run_makeMap Try.prog
  go_enter Try.func54, Try.ntmps54
  go_wp2_with (first
    | (go_at_call 62; refine (V.out _ X1.out.below).mono ?_; rintro e w1 ⟨b, n, rfl, hb1, hb2, hm, hb⟩; have X2 := Lib.hid (X1.out.went hb); have Z2 := Lib.hid (M0.out.went hb); have V2 := Lib.hid hm; rw [hs2] at hb1; clear hm hb)
    | (at_range; refine wpList_mset_range _ rfl _ rfl ktI Try.underlying94 (.agg []) b n _ rfl V2.out ?_; intro w2 hrg hg hsz)
    | go_in)
  have hX2s := X2.out.size
  have R0 := Lib.hid (show Rnd w h G (w.heap.size + 1) b w1.heap.size n 0 _ _ (fun _ => False) (allI G).length w2 from
    ⟨X2.out.grown hg (fun g e => by cases e), hrg, (Z2.out.keep (hg.block _ Z2.out.lt (fun e => by cases e))).mono (Nat.zero_le _), Nat.le_refl _, by omega, by have := V2.out.lt; omega⟩)
  have P0 := Lib.hid (Way.start (G := G) (L := lst G L) (X := VSet G L) (Z := fun _ => False) (fun y h1 h2 => (lst_set y).2 ⟨h1, h2⟩) (fun _ => id))
  clear V X1 M0 X2 Z2 hrg hg hsz hs2 hX2s
  go_frame
  go_loopw [6] (fun _ wr => ∃ (q : Nat) (Lf Z : Itm → Prop), Rnd w h G (w.heap.size + 1) b w1.heap.size n q (VSet G L) Lf Z (allI G).length wr ∧ Way G (lst G L) Lf Z) (fun _ wr => wr.rangeLeft b w1.heap.size)
  case atStart => exact ⟨0, _, _, R0.out, P0.out⟩
  case round =>
    obtain ⟨q, Lf, Z, hR, hP⟩ := hrel
    clear R0 P0
    have HR := Lib.hid hR
    have HP := Lib.hid hP
    have hrg := hR.run
    clear hR hP
    go_wp2_with (first
      | (at_next; refine wpList_mset_next _ rfl _ rfl ktI b w1.heap.size n q _ Lf rfl hrg ?_ ?_)
      | go_in)
    · intro hd
      have hz : ∀ y, Z y ↔ checkN G = 0 ∧ Clo G L y := fun y => (HP.out.done (fun y h1 h2 => hd y (right_w64 (mem_lst.1 h1).1 h2)) y).trans clo_lst
      have hzm : ∀ y, Z y → y ∈ allL G := fun y hy => mem_allL ((hz y).1 hy).1 (HP.out.right y hy)
      have LS := Lib.hid ((list_any (w.heap.size + 1) (allL G).length Z wr (HR.out.set.tight ktI (allL G) fun y _ hy => hzm y hy) (Nat.le_trans (allL_len G) (by omega)) (allL G) hzm (Nat.le_trans (allL_len G) (by omega))).mono fun e w' hl => ListIs.of (Q := fun x => checkN G = 0 ∧ Clo G L x) hl HR.out.bx.below fun x => ⟨fun q => (hz x).1 q.1, fun q => ⟨(hz x).2 q, right_w64 q.1 (clo_right q.2)⟩⟩)
      have hB := HR.out.bx.below
      clear HR HP hrg hzm
      go_wp2_with (go_at_call 64; refine LS.out.mono ?_; rintro e w4 ⟨Y, a4, c4, rfl, h1, h2, h3⟩; have H1 := Lib.hid h1; have H2 := Lib.hid h2; have H3 := Lib.hid h3; clear h1 h2 h3)
      go_ret
      exact ⟨Y, a4, c4, rfl, H1.out, H2.out, H3.out⟩
    · intro x0 x1 w3 hx hlf hXx hrg2 hlt hg2 hs2 hen
      have hv := hXx.1
      have hR3 := HR.out.next hg2 hrg2
      obtain ⟨hR4, hl4⟩ := hR3.later (boxed w3 (.cells #[.int .i64 x0, .int .i64 x1] 51))
      obtain ⟨g0, g1, g2, g3⟩ := hR4.bx.box
      have y0 : (w3.alloc (.cells #[.int .i64 x0, .int .i64 x1] 51)).cell? ⟨w3.heap.size, 0, none⟩ = some (.int .i64 x0) := cell_new rfl rfl
      have y1 : (w3.alloc (.cells #[.int .i64 x0, .int .i64 x1] 51)).cell? ⟨w3.heap.size, 1, none⟩ = some (.int .i64 x1) := cell_new rfl rfl
      have R4 := Lib.hid hR4
      have C := Lib.hid (SP.out hv (x0, x1) Z _ hR4.bx.below hXx.2.2 HP.out.right hR4.set)
      have PS := Lib.hid (fun (Y : Itm → Prop) => HP.out.step (Y := Y) (x := (x0, x1)) ((lst_set _).1 hXx).1 hXx.2.2)
      have hl5 : wr.rangeLeft b w1.heap.size > (w3.alloc (.cells #[.int .i64 x0, .int .i64 x1] 51)).rangeLeft b w1.heap.size := by rw [hl4]; exact hlt
      unfold iv at hen C ⊢
      dsimp only at hen C ⊢
      clear hR3 hR4 hl4 hlt hs2 hrg hrg2 HR HP hXx hlf hg2 hx
      go_wp2_with (go_at_call 63; refine C.out.mono ?_; rintro e w5 ⟨rfl, Y, hs, hm, hf⟩; obtain ⟨r5, l5⟩ := R4.out.wrote hf hm; have P5 := Lib.hid (PS.out Y hs); have R5 := Lib.hid r5; rw [← l5] at hl5; clear hs hm hf l5 r5)
      go_roundw
      case rel => exact ⟨_, _, Y, R5.out, P5.out⟩
      case measure => exact hl5

end Go.Proofs.Ytjjmoonajijnmaa.Im
