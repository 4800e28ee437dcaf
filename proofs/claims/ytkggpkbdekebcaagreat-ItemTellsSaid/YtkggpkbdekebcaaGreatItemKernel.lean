/-
  Package item: Kernel: what no closure adds, in order.
-/
import Derived.Test.YtkggpkbdekebcaaGreatItemStep
import Derived.Shelf.SlSortCmp.QuietGrown
namespace Go.Proofs.YtkggpkbdekebcaaGreat.Im
open Go.RowKit Go.Maps
open Go.Proofs.YtkggpkbdekebcaaGreat.Gr (Gram Sh gv GAt Bx Box boxed drawn checkN cell_new cell_old cell_later free_new free_old)
set_option linter.unusedVariables false

theorem augmented_grow (h : Sh) (G : Gram) (w : World) (k : GAt h G w) :
    Calls Tryz.prog 30 #[gv h G] w fun e w' => e = .returned (.int .i64 (G.rules.length : Int)) ∧ ∃ q os', w' = Go.Sort.grow (w.drewN q) os' := by
  have t := k.r2
  clear k
  unfold gv
  go_enter Tryz.func30, Tryz.ntmps30
  go_wp2
  go_ret
  exact ⟨rfl, (Gw.refl w).alloc _⟩

set_option maxRecDepth 100000 in
set_option maxHeartbeats 2000000 in
theorem kernel_any (h : Sh) (G : Gram) (L : List Itm) (a : Option Addr) (c : Nat) (w : World) (k : GAt h G w) (kl : ItsA a L w) (hw : ∀ x ∈ L, W64 x) (hL : L.length ≤ 1000000) :
    Calls Tryz.prog 12 #[gv h G, .slice a L.length c] w (ListIs (fun x => checkN G = 0 ∧ KerP G L x) w) := by
  have X0 := Lib.hid (Bx.start h G w 25)
  have V := Lib.hid (fun w1 (b : Below w.heap.size w w1) => valid_any h G L a c w1 (k.went b) (kl.went b) hw (by omega))
  have M0 := Lib.hid (MSet.made (H := Nat) (w.alloc (.cells #[.slice h.a1 G.terms.length h.c1, .slice h.a2 G.nons.length h.c2, .slice h.a3 G.rules.length h.c3, .int .i64 G.start] 25)) Tryz.prog 34 unitElem (.agg []))
  have X1 := Lib.hid (X0.out.alloc (.map #[] 0))
  have hs1 : (w.alloc (.cells #[.slice h.a1 G.terms.length h.c1, .slice h.a2 G.nons.length h.c2, .slice h.a3 G.rules.length h.c3, .int .i64 G.start] 25)).heap.size = w.heap.size + 1 := by simp
  have hs2 : ((w.alloc (.cells #[.slice h.a1 G.terms.length h.c1, .slice h.a2 G.nons.length h.c2, .slice h.a3 G.rules.length h.c3, .int .i64 G.start] 25)).alloc (.map #[] 0)).heap.size = w.heap.size + 2 := by simp
  rw [hs1] at M0
  have AG := Lib.hid (fun w1 (b : Below w.heap.size w w1) => augmented_grow h G w1 (k.went b))
  have mixed : Tryz.prog.follows .mixedOrders = true := by kernel_rfl
  clear k kl hw X0 hs1
  unfold gv at *
  have hmm := @run_makeMap Tryz.prog
  go_enter Tryz.func12, Tryz.ntmps12
  go_wp2_with (first
    | (go_at_call 31; refine (V.out _ X1.out.below).mono ?_; rintro e w1 ⟨b, n, rfl, hb1, hb2, hm, hb⟩; have X2 := Lib.hid (X1.out.went hb); have Z2 := Lib.hid (M0.out.went hb); have V2 := Lib.hid hm; rw [hs2] at hb1; clear hm hb)
    | (at_range; refine wpList_mset_range _ rfl _ rfl ktI Tryz.underlying49 (.agg []) b n _ rfl V2.out ?_; intro w2 hrg hg hsz)
    | go_in)
  have hX2s := X2.out.size
  have R0 := Lib.hid (show Rnd w h G (w.heap.size + 1) b w1.heap.size n 0 _ _ (fun _ => False) 0 w2 from
    ⟨X2.out.grown hg (fun g e => by cases e), hrg, Z2.out.keep (hg.block _ Z2.out.lt (fun e => by cases e)), Nat.le_refl _, by omega, by have := V2.out.lt; omega⟩)
  have P0 := Lib.hid (Put.start (X := VSet G L) (Q := Kr G) (f := id))
  clear V X1 M0 X2 Z2 hrg hg hsz hs2 hX2s
  go_frame
  go_loopw [6] (fun _ wr => ∃ (q : Nat) (Lf Z : Itm → Prop), q ≤ n ∧ Rnd w h G (w.heap.size + 1) b w1.heap.size n q (VSet G L) Lf Z q wr ∧ Put (VSet G L) Lf (Kr G) id Z) (fun _ wr => wr.rangeLeft b w1.heap.size)
  case atStart => exact ⟨0, _, _, Nat.zero_le _, R0.out, P0.out⟩
  case round =>
    obtain ⟨q, Lf, Z, hq, hR, hP⟩ := hrel
    clear R0 P0
    have HR := Lib.hid hR
    have HP := Lib.hid hP
    have hrg := hR.run
    clear hR hP
    go_wp2_with (first
      | (at_next; refine wpList_mset_next _ rfl _ rfl ktI b w1.heap.size n q _ Lf rfl hrg ?_ ?_)
      | go_in)
    · intro hd
      have hz := ker_set HP.out hd
      have hzm : ∀ y, Z y → y ∈ allL G := fun y hy => mem_allL ((hz y).1 hy).1 ((hz y).1 hy).2.2.1
      have LS := Lib.hid ((list_any (w.heap.size + 1) q Z wr HR.out.set (by omega) (allL G) hzm (Nat.le_trans (allL_len G) (by omega))).mono fun e w' hl => ListIs.of (Q := fun x => checkN G = 0 ∧ KerP G L x) hl HR.out.bx.below fun x => ⟨fun q => (hz x).1 q.1, fun q => ⟨(hz x).2 q, right_w64 q.1 q.2.2.1⟩⟩)
      clear HR HP hrg hzm hz
      go_wp2_with (go_at_call 33; refine LS.out.mono ?_; rintro e w4 ⟨Y, a4, c4, rfl, h1, h2, h3⟩; have H1 := Lib.hid h1; have H2 := Lib.hid h2; have H3 := Lib.hid h3; clear h1 h2 h3)
      go_ret
      exact ⟨Y, a4, c4, rfl, H1.out, H2.out, H3.out⟩
    · intro x0 x1 w3 hx hlf hXx hrg2 hlt hg2 hs2 hen
      obtain ⟨hv, hxl, hr⟩ := id hXx
      have hR3 := HR.out.next hg2 hrg2
      obtain ⟨hR4, hl4⟩ := hR3.later (boxed w3 (.cells #[.int .i64 x0, .int .i64 x1] 34))
      obtain ⟨g0, g1, g2, g3⟩ := hR4.bx.box
      have y0 : (w3.alloc (.cells #[.int .i64 x0, .int .i64 x1] 34)).cell? ⟨w3.heap.size, 0, none⟩ = some (.int .i64 x0) := cell_new rfl rfl
      have y1 : (w3.alloc (.cells #[.int .i64 x0, .int .i64 x1] 34)).cell? ⟨w3.heap.size, 1, none⟩ = some (.int .i64 x1) := cell_new rfl rfl
      have R4 := Lib.hid hR4
      have hl5 : wr.rangeLeft b w1.heap.size > (w3.alloc (.cells #[.int .i64 x0, .int .i64 x1] 34)).rangeLeft b w1.heap.size := by rw [hl4]; exact hlt
      have hq2 : q + 1 ≤ n := by
        obtain ⟨D, left, cnt, h1, h2, h3, h4⟩ := hrg2
        omega
      obtain ⟨b1, b2, b3, b4⟩ := right_small hv hr
      dsimp only at b1 b2 b3 b4
      have hn : W64 (x0, x1) := hx
      have PH := Lib.hid (fun hh => HP.out.hit (x := (x0, x1)) hXx hx hh)
      have PM := Lib.hid (fun hh => HP.out.miss (x := (x0, x1)) hh)
      unfold iv at hen ⊢
      dsimp only at hen ⊢
      clear hR3 hR4 hl4 hlt hs2 hrg hrg2 HR HP hXx hlf hg2 hx hxl hr
      go_wp2
      obtain ⟨w4, hw4⟩ : ∃ w4, w3.alloc (.cells #[.int .i64 x0, .int .i64 x1] 34) = w4 := ⟨_, rfl⟩
      rw [hw4] at R4 y0 y1 g0 g1 g2 g3 hl5 ⊢
      clear hw4
      have hGw : ∀ m os, Gw w4 (Go.Sort.grow (w4.drewN m) os) := fun m os => ⟨m, os, rfl⟩
      have q0 : ∀ m os, (Go.Sort.grow (w4.drewN m) os).cell? ⟨w3.heap.size, 0, none⟩ = some (.int .i64 x0) := fun m os => cell_later (hGw m os).below y0
      have q1 : ∀ m os, (Go.Sort.grow (w4.drewN m) os).cell? ⟨w3.heap.size, 1, none⟩ = some (.int .i64 x1) := fun m os => cell_later (hGw m os).below y1
      have k0 : ∀ m os, (Go.Sort.grow (w4.drewN m) os).cell? ⟨w.heap.size, 0, none⟩ = some (.slice h.a1 G.terms.length h.c1) := fun m os => cell_later (hGw m os).below g0
      have k1 : ∀ m os, (Go.Sort.grow (w4.drewN m) os).cell? ⟨w.heap.size, 1, none⟩ = some (.slice h.a2 G.nons.length h.c2) := fun m os => cell_later (hGw m os).below g1
      have k2 : ∀ m os, (Go.Sort.grow (w4.drewN m) os).cell? ⟨w.heap.size, 2, none⟩ = some (.slice h.a3 G.rules.length h.c3) := fun m os => cell_later (hGw m os).below g2
      have k3 : ∀ m os, (Go.Sort.grow (w4.drewN m) os).cell? ⟨w.heap.size, 3, none⟩ = some (.int .i64 G.start) := fun m os => cell_later (hGw m os).below g3
      have CA := Lib.hid (fun m os => AG.out _ (R4.out.bx.below.trans ((hGw m os).below.mono R4.out.bx.below.size)))
      have RG := Lib.hid (fun m os => R4.out.later (hGw m os).below)
      by_cases hd : 0 < x1
      · have hdd : decide (0 < x1) = true := decide_eq_true hd
        go_quiet_grown (first | (go_at_call 30; refine Calls.grown_of (CA.out _ _)))
        have PS := Lib.hid (PH.out (.inl hd))
        obtain ⟨r5, l5⟩ := RG.out nq osq
        have R5 := Lib.hid r5
        have z0 := q0 nq osq
        have z1 := q1 nq osq
        rw [← l5] at hl5
        have PA := Lib.hid (put_any (x0, x1) hn (w.heap.size + 1) q Z _ R5.out.set (by unfold maxLen; omega))
        unfold iv at PA
        dsimp only at PA
        generalize Go.Sort.grow (w4.drewN nq) osq = w5 at *
        clear r5 l5 RG CA q0 q1 k0 k1 k2 k3 hGw
        go_wp2_with (go_at_call 34; refine PA.out.mono ?_; rintro e w6 ⟨ok, _, rfl, hm, hf⟩; obtain ⟨r6, l6⟩ := R5.out.wrote hf hm; have R6 := Lib.hid r6; rw [← l6] at hl5; clear hm hf r6 l6)
        go_roundw
        case rel => exact ⟨q + 1, _, _, hq2, R6.out, PS.out⟩
        case measure => exact hl5
      · have hdd : decide (0 < x1) = false := decide_eq_false hd
        go_quiet_grown (first | (go_at_call 30; refine Calls.grown_of (CA.out _ _)))
        by_cases he : x0 = (G.rules.length : Int)
        · have PS := Lib.hid (PH.out (.inr he))
          subst he
          obtain ⟨r5, l5⟩ := RG.out nq osq
          have R5 := Lib.hid r5
          have z0 := q0 nq osq
          have z1 := q1 nq osq
          rw [← l5] at hl5
          have PA := Lib.hid (put_any ((G.rules.length : Int), x1) hn (w.heap.size + 1) q Z _ R5.out.set (by unfold maxLen; omega))
          unfold iv at PA
          dsimp only at PA
          generalize Go.Sort.grow (w4.drewN nq) osq = w5 at *
          clear r5 l5 RG CA q0 q1 k0 k1 k2 k3 hGw
          go_wp2_with (go_at_call 34; refine PA.out.mono ?_; rintro e w6 ⟨ok, _, rfl, hm, hf⟩; obtain ⟨r6, l6⟩ := R5.out.wrote hf hm; have R6 := Lib.hid r6; rw [← l6] at hl5; clear hm hf r6 l6)
          go_roundw
          case rel => exact ⟨q + 1, _, _, hq2, R6.out, PS.out⟩
          case measure => exact hl5
        · have heb : (x0 == (G.rules.length : Int)) = false := by simpa using he
          have PS := Lib.hid (PM.out fun k => k.elim hd he)
          obtain ⟨r5, l5⟩ := RG.out nq osq
          have R5 := Lib.hid r5
          rw [← l5] at hl5
          generalize Go.Sort.grow (w4.drewN nq) osq = w5 at *
          clear r5 l5 RG CA q0 q1 k0 k1 k2 k3 hGw
          go_wp2_with (fail)
          go_roundw
          case rel => exact ⟨q + 1, _, _, hq2, ⟨R5.out.bx, R5.out.run, R5.out.set.mono (Nat.le_succ q), R5.out.d1, R5.out.d2, R5.out.d3⟩, PS.out⟩
          case measure => exact hl5

end Go.Proofs.YtkggpkbdekebcaaGreat.Im
