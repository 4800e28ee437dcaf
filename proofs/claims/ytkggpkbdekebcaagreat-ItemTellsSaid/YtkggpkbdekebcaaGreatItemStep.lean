/-
  Package item: Step and Kernel: what of a list's right items is stepped to, what no closure adds; in order.
-/
import Derived.Test.YtkggpkbdekebcaaGreatItemClose
namespace Go.Proofs.YtkggpkbdekebcaaGreat.Im
open Go.RowKit Go.Maps
open Go.Proofs.YtkggpkbdekebcaaGreat.Gr (Gram Sh gv GAt Bx Box boxed drawn checkN cell_new cell_old cell_later free_new free_old)
set_option linter.unusedVariables false

/-- What the items that came have made: f of those of which Q says yes. -/
structure Put (X Lf Q : Itm → Prop) (f : Itm → Itm) (Z : Itm → Prop) : Prop where
  mem : ∀ x, Z x ↔ ∃ y, X y ∧ ¬ Lf y ∧ W64 y ∧ Q y ∧ x = f y
theorem Put.start {X Q : Itm → Prop} {f : Itm → Itm} : Put X X Q f (fun _ => False) := ⟨fun x => ⟨False.elim, fun ⟨_, h1, h2, _⟩ => absurd h1 h2⟩⟩
theorem Put.hit {X Lf Q Z : Itm → Prop} {f : Itm → Itm} {x : Itm} (p : Put X Lf Q f Z) (hX : X x) (hw : W64 x) (hq : Q x) : Put X (fun y => Lf y ∧ y ≠ x) Q f (fun y => Z y ∨ y = f x) := by
  refine ⟨fun z => ?_⟩
  rw [p.mem]
  constructor
  · rintro (⟨y, h1, h2, h3⟩ | e)
    · exact ⟨y, h1, fun k => h2 k.1, h3⟩
    · exact ⟨x, hX, fun k => k.2 rfl, hw, hq, e⟩
  · rintro ⟨y, h1, h2, h3, h4, h5⟩
    by_cases e : y = x
    · subst e
      exact .inr h5
    · exact .inl ⟨y, h1, fun k => h2 ⟨k, e⟩, h3, h4, h5⟩
theorem Put.miss {X Lf Q Z : Itm → Prop} {f : Itm → Itm} {x : Itm} (p : Put X Lf Q f Z) (hq : ¬ Q x) : Put X (fun y => Lf y ∧ y ≠ x) Q f Z := by
  refine ⟨fun z => ?_⟩
  rw [p.mem]
  constructor
  · rintro ⟨y, h1, h2, h3⟩
    exact ⟨y, h1, fun k => h2 k.1, h3⟩
  · rintro ⟨y, h1, h2, h3, h4, h5⟩
    by_cases e : y = x
    · subst e
      exact absurd h4 hq
    · exact ⟨y, h1, fun k => h2 ⟨k, e⟩, h3, h4, h5⟩
theorem Put.done {X Lf Q Z : Itm → Prop} {f : Itm → Itm} (p : Put X Lf Q f Z) (h : Over Lf) (x : Itm) : Z x ↔ ∃ y, X y ∧ W64 y ∧ Q y ∧ x = f y := by
  rw [p.mem]
  exact ⟨fun ⟨y, h1, _, h3⟩ => ⟨y, h1, h3⟩, fun ⟨y, h1, h3, h4⟩ => ⟨y, h1, h y h3, h3, h4⟩⟩

/-- The item has s behind its dot. -/
def Hs (G : Gram) (s : Int) (y : Itm) : Prop := behB G y = true ∧ behV G y = s
def nx (y : Itm) : Itm := (y.1, y.2 + 1)
theorem step_set {G : Gram} {L : List Itm} {s : Int} {Lf Z : Itm → Prop} (p : Put (VSet G L) Lf (Hs G s) nx Z) (h : Over Lf) (x : Itm) : Z x ↔ checkN G = 0 ∧ StepP G L s x := by
  rw [p.done h]
  constructor
  · rintro ⟨y, ⟨h1, h2, h3⟩, _, ⟨h4, h5⟩, h6⟩
    exact ⟨h1, y, h2, h4, h5, h6⟩
  · rintro ⟨h1, y, h2, h4, h5, h6⟩
    have h3 := (beh_iff.1 h4).1
    exact ⟨y, ⟨h1, h2, h3⟩, right_w64 h1 h3, ⟨h4, h5⟩, h6⟩
/-- An item of the kernel. -/
def Kr (G : Gram) (y : Itm) : Prop := 0 < y.2 ∨ y.1 = (G.rules.length : Int)
theorem ker_set {G : Gram} {L : List Itm} {Lf Z : Itm → Prop} (p : Put (VSet G L) Lf (Kr G) id Z) (h : Over Lf) (x : Itm) : Z x ↔ checkN G = 0 ∧ KerP G L x := by
  rw [p.done h]
  constructor
  · rintro ⟨y, ⟨h1, h2, h3⟩, _, h4, h6⟩
    subst h6
    exact ⟨h1, h2, h3, h4⟩
  · rintro ⟨h1, h2, h3, h4⟩
    exact ⟨x, ⟨h1, h2, h3⟩, right_w64 h1 h3, h4, rfl⟩

set_option maxRecDepth 100000 in
set_option maxHeartbeats 2000000 in
theorem step_any (h : Sh) (G : Gram) (L : List Itm) (a : Option Addr) (c : Nat) (s : Int) (w : World) (k : GAt h G w) (kl : ItsA a L w) (hw : ∀ x ∈ L, W64 x) (hL : L.length ≤ 1000000) :
    Calls Tryz.prog 11 #[gv h G, .slice a L.length c, .int .i64 s] w (ListIs (fun x => checkN G = 0 ∧ StepP G L s x) w) := by
  have X0 := Lib.hid (Bx.start h G w 25)
  have V := Lib.hid (fun w1 (b : Below w.heap.size w w1) => valid_any h G L a c w1 (k.went b) (kl.went b) hw (by omega))
  have M0 := Lib.hid (MSet.made (H := Nat) (w.alloc (.cells #[.slice h.a1 G.terms.length h.c1, .slice h.a2 G.nons.length h.c2, .slice h.a3 G.rules.length h.c3, .int .i64 G.start] 25)) Tryz.prog 34 unitElem (.agg []))
  have X1 := Lib.hid (X0.out.alloc (.map #[] 0))
  have hs1 : (w.alloc (.cells #[.slice h.a1 G.terms.length h.c1, .slice h.a2 G.nons.length h.c2, .slice h.a3 G.rules.length h.c3, .int .i64 G.start] 25)).heap.size = w.heap.size + 1 := by simp
  have hs2 : ((w.alloc (.cells #[.slice h.a1 G.terms.length h.c1, .slice h.a2 G.nons.length h.c2, .slice h.a3 G.rules.length h.c3, .int .i64 G.start] 25)).alloc (.map #[] 0)).heap.size = w.heap.size + 2 := by simp
  rw [hs1] at M0
  have BH := Lib.hid (fun (x : Itm) w1 (b : Below w.heap.size w w1) => behind_any h G x w1 (k.went b))
  clear k kl hw X0 hs1
  unfold gv at *
  have hmm := @run_makeMap Tryz.prog
  go_enter Tryz.func11, Tryz.ntmps11
  go_wp2_with (first
    | (go_at_call 31; refine (V.out _ X1.out.below).mono ?_; rintro e w1 ⟨b, n, rfl, hb1, hb2, hm, hb⟩; have X2 := Lib.hid (X1.out.went hb); have Z2 := Lib.hid (M0.out.went hb); have V2 := Lib.hid hm; rw [hs2] at hb1; clear hm hb)
    | (at_range; refine wpList_mset_range _ rfl _ rfl ktI Tryz.underlying49 (.agg []) b n _ rfl V2.out ?_; intro w2 hrg hg hsz)
    | go_in)
  have hX2s := X2.out.size
  have R0 := Lib.hid (show Rnd w h G (w.heap.size + 1) b w1.heap.size n 0 _ _ (fun _ => False) 0 w2 from
    ⟨X2.out.grown hg (fun g e => by cases e), hrg, Z2.out.keep (hg.block _ Z2.out.lt (fun e => by cases e)), Nat.le_refl _, by omega, by have := V2.out.lt; omega⟩)
  have P0 := Lib.hid (Put.start (X := VSet G L) (Q := Hs G s) (f := nx))
  clear V X1 M0 X2 Z2 hrg hg hsz hs2 hX2s
  go_frame
  go_loopw [8, 9, 10] (fun _ _ _ wr => ∃ (q : Nat) (Lf Z : Itm → Prop), q ≤ n ∧ Rnd w h G (w.heap.size + 1) b w1.heap.size n q (VSet G L) Lf Z q wr ∧ Put (VSet G L) Lf (Hs G s) nx Z) (fun _ _ _ wr => wr.rangeLeft b w1.heap.size)
  case atStart => exact ⟨0, _, _, Nat.zero_le _, R0.out, P0.out⟩
  case round =>
    obtain ⟨q, Lf, Z, hq, hR, hP⟩ := hrel
    clear R0 P0
    have HR := Lib.hid hR
    have HP := Lib.hid hP
    have hrg := hR.run
    clear hR hP
    go_wp2_with (first
      | (at_next; refine wpList_mset_next _ rfl _ rfl ktI b w1.heap.size n q _ Lf rfl hrg ?_ ?_)
      | go_in)
    · intro hd
      have hz := step_set HP.out hd
      have hzm : ∀ y, Z y → y ∈ allL G := fun y hy => mem_allL ((hz y).1 hy).1 (step_right ((hz y).1 hy).2).1
      have LS := Lib.hid ((list_any (w.heap.size + 1) q Z wr HR.out.set (by omega) (allL G) hzm (Nat.le_trans (allL_len G) (by omega))).mono fun e w' hl => ListIs.of (Q := fun x => checkN G = 0 ∧ StepP G L s x) hl HR.out.bx.below fun x => ⟨fun q => (hz x).1 q.1, fun q => ⟨(hz x).2 q, right_w64 q.1 (step_right q.2).1⟩⟩)
      clear HR HP hrg hzm hz
      go_wp2_with (go_at_call 33; refine LS.out.mono ?_; rintro e w4 ⟨Y, a4, c4, rfl, h1, h2, h3⟩; have H1 := Lib.hid h1; have H2 := Lib.hid h2; have H3 := Lib.hid h3; clear h1 h2 h3)
      go_ret
      exact ⟨Y, a4, c4, rfl, H1.out, H2.out, H3.out⟩
    · intro x0 x1 w3 hx hlf hXx hrg2 hlt hg2 hs2 hen
      obtain ⟨hv, hxl, hr⟩ := id hXx
      have hR3 := HR.out.next hg2 hrg2
      obtain ⟨hR4, hl4⟩ := hR3.later (boxed w3 (.cells #[.int .i64 x0, .int .i64 x1] 34))
      obtain ⟨g0, g1, g2, g3⟩ := hR4.bx.box
      have y0 : (w3.alloc (.cells #[.int .i64 x0, .int .i64 x1] 34)).cell? ⟨w3.heap.size, 0, none⟩ = some (.int .i64 x0) := cell_new rfl rfl
      have y1 : (w3.alloc (.cells #[.int .i64 x0, .int .i64 x1] 34)).cell? ⟨w3.heap.size, 1, none⟩ = some (.int .i64 x1) := cell_new rfl rfl
      have R4 := Lib.hid hR4
      have C := Lib.hid (BH.out (x0, x1) _ hR4.bx.below)
      obtain ⟨e1, e2⟩ := next_of hr
      rw [e1, e2] at C
      have hl5 : wr.rangeLeft b w1.heap.size > (w3.alloc (.cells #[.int .i64 x0, .int .i64 x1] 34)).rangeLeft b w1.heap.size := by rw [hl4]; exact hlt
      have hq2 : q + 1 ≤ n := by
        obtain ⟨D, left, cnt, h1, h2, h3, h4⟩ := hrg2
        omega
      obtain ⟨b1, b2, b3, b4⟩ := right_small hv hr
      dsimp only at b1 b2 b3 b4
      by_cases hh : Hs G s (x0, x1)
      · obtain ⟨h1, h2⟩ := id hh
        rw [h1, h2] at C
        have PS := Lib.hid (HP.out.hit hXx hx hh)
        have hn : W64 (nx (x0, x1)) := right_w64 hv (right_next h1)
        unfold iv at hen C ⊢
        dsimp only at hen C ⊢
        clear hR3 hR4 hl4 hlt hs2 hrg hrg2 HR HP hXx hlf hg2 hx hh h1 h2 e1 e2 hxl hr
        go_wp2_with (first
          | (go_at_call 28; refine C.out.mono ?_; rintro e w5 ⟨rfl, hb5⟩; obtain ⟨r5, l5⟩ := R4.out.later hb5; have z0 := cell_later hb5 y0; have z1 := cell_later hb5 y1; have R5 := Lib.hid r5; rw [← l5] at hl5; have PA := Lib.hid (put_any (nx (x0, x1)) hn (w.heap.size + 1) q Z w5 R5.out.set (by unfold maxLen; omega)); unfold iv nx at PA; dsimp only at PA; clear hb5 r5 l5)
          | (go_at_call 34; refine PA.out.mono ?_; rintro e w6 ⟨ok, _, rfl, hm, hf⟩; obtain ⟨r6, l6⟩ := R5.out.wrote hf hm; have R6 := Lib.hid r6; rw [← l6] at hl5; clear hm hf r6 l6))
        go_roundw
        case rel => exact ⟨q + 1, _, _, hq2, R6.out, PS.out⟩
        case measure => exact hl5
      · have PS := Lib.hid (HP.out.miss (x := (x0, x1)) hh)
        have hh' : behB G (x0, x1) = false ∨ (behB G (x0, x1) = true ∧ (behV G (x0, x1) == s) = false) := by
          cases h1 : behB G (x0, x1) with
          | false => exact .inl rfl
          | true => exact .inr ⟨rfl, by simpa using fun h2 => hh ⟨h1, h2⟩⟩
        unfold iv at hen C ⊢
        dsimp only at hen C ⊢
        clear hR3 hR4 hl4 hlt hs2 hrg hrg2 HR HP hXx hlf hg2 hx hh e1 e2 hxl hr
        generalize behV G (x0, x1) = bv at C hh'
        generalize behB G (x0, x1) = bb at C hh'
        rcases hh' with rfl | ⟨rfl, hne⟩
        · go_wp2_with (go_at_call 28; refine C.out.mono ?_; rintro e w5 ⟨rfl, hb5⟩; obtain ⟨r5, l5⟩ := R4.out.later hb5; have R5 := Lib.hid r5; rw [← l5] at hl5; clear hb5 r5 l5)
          go_roundw
          case rel => exact ⟨q + 1, _, _, hq2, ⟨R5.out.bx, R5.out.run, R5.out.set.mono (Nat.le_succ q), R5.out.d1, R5.out.d2, R5.out.d3⟩, PS.out⟩
          case measure => exact hl5
        · go_wp2_with (go_at_call 28; refine C.out.mono ?_; rintro e w5 ⟨rfl, hb5⟩; obtain ⟨r5, l5⟩ := R4.out.later hb5; have R5 := Lib.hid r5; rw [← l5] at hl5; clear hb5 r5 l5)
          go_roundw
          case rel => exact ⟨q + 1, _, _, hq2, ⟨R5.out.bx, R5.out.run, R5.out.set.mono (Nat.le_succ q), R5.out.d1, R5.out.d2, R5.out.d3⟩, PS.out⟩
          case measure => exact hl5

end Go.Proofs.YtkggpkbdekebcaaGreat.Im
