/-
  The statement's own function enters: a symbol stands ahead of each item's dot.
-/
import Derived.Test.YtjjmoonajijnmaaMAutoS
import Derived.Test.YtjjmoonajijnmaaGramRule
import Derived.Deep.QuietTactic
import Derived.BigQuiet
namespace Go.Proofs.Ytjjmoonajijnmaa.Au
open Go.RowKit Go.Maps
open Go.Proofs.Ytjjmoonajijnmaa.Gr (Gram Sh gv GAt Box Bx checkN top ruleR ruleB boxed drawn cell_new cell_old cell_later bool_of)
open Go.Proofs.Ytjjmoonajijnmaa.Im
set_option linter.unusedVariables false

set_option maxRecDepth 100000 in
set_option maxHeartbeats 4000000 in
theorem enters_any (h : Sh) (G : Gram) (hv : checkN G = 0) (L : List Itm) (a : Option Addr) (c : Nat) (s : Int) (w : World) (k : GAt h G w) (kl : ItsA a L w) (hL : L.length ≤ 1000000) (he : ∀ x ∈ L, entersB G s x) :
    Calls Try.prog 15 #[gv h G, .slice a L.length c, .int .i64 s] w (Gr.Is (.bool true) w) := by
  have X0 := Lib.hid (Bx.start h G w 36)
  have RU := Lib.hid (fun (r : Int) w1 (b : Below w.heap.size w w1) => Gr.rrule_any h G r w1 (k.went b))
  have KL := Lib.hid (fun w1 (b : Below w.heap.size w w1) => kl.went b)
  have HE := Lib.hid he
  clear k kl he
  unfold gv at *
  go_enter Try.func15, Try.ntmps15
  go_wp2
  go_loopw [7] (fun i wr => ∃ j : Nat, i = .int .i64 j ∧ j ≤ L.length ∧ Bx w h G wr) (fun i _ => L.length - (intOf i).toNat)
  case atStart => exact ⟨0, rfl, Nat.zero_le _, X0.out⟩
  case round =>
    obtain ⟨j, rfl, hj, hB⟩ := hrel
    have B := Lib.hid hB
    clear hB X0
    by_cases hlt : j < L.length
    · obtain ⟨b1, o1, rfl, p0, p1⟩ := (KL.out wr B.out.below).at j hlt
      have hx := HE.out _ (List.getElem_mem hlt)
      generalize L[j] = x at *
      obtain ⟨xr, xd⟩ := x
      obtain ⟨e1, e2, e3, e4⟩ := hx
      dsimp only at p0 p1 e1 e2 e3 e4
      obtain ⟨d, hd⟩ := Int.eq_ofNat_of_zero_le (show 0 ≤ xd - 1 by omega)
      obtain rfl : xd = (d : Int) + 1 := by omega
      rw [show ((d : Int) + 1 - 1).toNat = d by omega] at e4
      have hdl : d < (ruleR G xr).2.length := by
        unfold rlen at e3
        omega
      have hd9 := (right_small hv (x := (xr, (d : Int) + 1)) (right_iff.2 ⟨of_decide_eq_true (show ruleB G xr = true from e1), by dsimp only; omega, by dsimp only; omega⟩)).2.2.2
      dsimp only at hd9
      have hs1 := (sym_known hv e1 hdl).1
      have e5 : (ruleR G xr).2[d] = s := by
        rw [List.getD_eq_getElem?_getD, List.getElem?_eq_getElem hdl] at e4
        exact e4
      rw [e5] at hs1
      clear e4 hd
      have hbd := drawn wr
      have hbe : Below wr.heap.size wr (wr.alloc (.cells #[.int .i64 0, .slice none 0 0] 47)).drew := ((Below.refl _ _).alloc (Nat.le_refl _) _).drew
      have HT := Lib.hid (show ∀ w' u v, Below wr.heap.size wr w' → Below wr.heap.size wr ((w'.setCell ⟨wr.heap.size, 0, none⟩ u).setCell ⟨wr.heap.size, 1, none⟩ v) from fun w' u v hb => (hb.setCell (Nat.le_refl _) _).setCell (Nat.le_refl _) _)
      have Z0 := Lib.hid (show (wr.alloc (.cells #[.int .i64 0, .slice none 0 0] 47)).drew.cell? ⟨wr.heap.size, 0, none⟩ = some (.int .i64 0) from cell_new rfl rfl)
      have Z1 := Lib.hid (show (wr.alloc (.cells #[.int .i64 0, .slice none 0 0] 47)).drew.cell? ⟨wr.heap.size, 1, none⟩ = some (.slice none 0 0) from cell_new rfl rfl)
      have Z2 := Lib.hid (show (wr.alloc (.cells #[.int .i64 0, .slice none 0 0] 47)).drew.frozen? ⟨wr.heap.size, 0, none⟩ = false from Gr.free_new rfl)
      have Z3 := Lib.hid (show (wr.alloc (.cells #[.int .i64 0, .slice none 0 0] 47)).drew.frozen? ⟨wr.heap.size, 1, none⟩ = false from Gr.free_new rfl)
      have HQ := Lib.hid (fun w' (b : Below wr.heap.size wr w') => (show w'.cell? ⟨w.heap.size, 0, none⟩ = _ ∧ w'.cell? ⟨w.heap.size, 1, none⟩ = _ ∧ w'.cell? ⟨w.heap.size, 2, none⟩ = _ ∧ w'.cell? ⟨w.heap.size, 3, none⟩ = _ ∧ w'.cell? ⟨b1, o1 + j * 2, none⟩ = some (.int .i64 xr) ∧ Below wr.heap.size wr w' from ⟨(B.out.went b).box.x0, (B.out.went b).box.x1, (B.out.went b).box.x2, (B.out.went b).box.x3, cell_later b p0, b⟩))
      have RX := Lib.hid (fun w' (b : Below wr.heap.size wr w') => RU.out xr w' (Gr.step B.out.below b))
      have P1 := Lib.hid (fun w' (b : Below wr.heap.size wr w') => cell_later b p1)
      rw [e1] at RX
      generalize ruleR G xr = rv at *
      obtain ⟨rl, rr⟩ := rv
      dsimp only at RX hdl e5
      clear e1 e3 p0 p1
      go_wp2
      go_region_held3 (fun w' => w'.cell? ⟨w.heap.size, 0, none⟩ = some (.slice h.a1 G.terms.length h.c1) ∧ w'.cell? ⟨w.heap.size, 1, none⟩ = some (.slice h.a2 G.nons.length h.c2) ∧ w'.cell? ⟨w.heap.size, 2, none⟩ = some (.slice h.a3 G.rules.length h.c3) ∧ w'.cell? ⟨w.heap.size, 3, none⟩ = some (.int .i64 G.start) ∧ w'.cell? ⟨b1, o1 + j * 2, none⟩ = some (.int .i64 xr) ∧ Below wr.heap.size wr w')
        (first | exact HQ.out _ (by assumption) | exact HQ.out _ (Below.alloc (by assumption) (Below.size (by assumption)) _) | exact HQ.out _ (HT.out _ _ _ (by assumption)))
        (first
          | (go_at_call 17; refine (RX.out wr.drew hbd).mono ?_; rintro e v1 ⟨ra, rc, rfl, hR, hb⟩; have l1 : Below wr.heap.size wr v1 := Gr.step hbd hb; have RD := Lib.hid hR; clear hb hR)
          | (go_at_call 17; refine (RX.out (wr.alloc (.cells #[.int .i64 0, .slice none 0 0] 47)).drew hbe).mono ?_; rintro e v1 ⟨ra, rc, rfl, hR, hb⟩; have l1 : Below wr.heap.size wr v1 := Gr.step hbe hb; have z0 := cell_later hb Z0.out; have z1 := cell_later hb Z1.out; have z2 := Gr.free_old hb Z2.out Z0.out; have z3 := Gr.free_old hb Z3.out Z0.out; have RD := Lib.hid hR; clear hb hR)
          | fail)
      all_goals
        first
          | (have BC := Lib.hid (box_new (rl := rl) (rc := rc) 47 l1 RD.out); obtain ⟨wc, hwc⟩ : ∃ wc, v1.alloc (.cells #[.int .i64 rl, .slice ra rr.length rc] 47) = wc := ⟨_, rfl⟩; rw [hwc] at BC; rw [hwc]; clear hwc RD l1; generalize v1.heap.size = rb at BC ⊢)
          | (have BC := Lib.hid (box_old (rl := rl) (rc := rc) l1 RD.out z0 z1); obtain ⟨wc, hwc⟩ : ∃ wc, (v1.setCell ⟨wr.heap.size, 0, none⟩ (.int .i64 rl)).setCell ⟨wr.heap.size, 1, none⟩ (.slice ra rr.length rc) = wc := ⟨_, rfl⟩; rw [hwc] at BC; rw [hwc]; clear hwc RD l1 z0 z1 z2 z3; generalize hrbb : wr.heap.size = rb at BC ⊢)
        obtain ⟨b2, o2, ea, hc2⟩ := BC.out.at_ d hdl (by omega)
        subst ea
        rw [e5] at hc2
        have hr2 := BC.out.cell
        have hp2 := P1.out wc BC.out.below
        have Bc := Lib.hid (B.out.went BC.out.below)
        clear BC B HQ HT Z0 Z1 Z2 Z3 RX P1 hbd hbe
        have d1 : decide ((d : Int) + 1 < 1) = false := decide_eq_false (by omega)
        have d2 : decide ((rr.length : Int) < (d : Int) + 1) = false := decide_eq_false (by omega)
        have d3 : IntKind.i64.wrap ((d : Int) + 1 - 1) = (d : Int) := by
          rw [show (d : Int) + 1 - 1 = (d : Int) by omega]
          simp [IntKind.wrap, IntKind.bits, IntKind.signed]
          omega
        go_wp2
        go_quiet (fail)
        go_wp2
        go_roundw
        case rel => exact ⟨j + 1, by go_num, by omega, Bc.out.went ⟨rfl, rfl, rfl, Nat.le_refl _, fun _ _ => rfl⟩⟩
        case measure => simp [intOf]; omega
    · have hE : j = L.length := by omega
      subst hE
      go_wp2
      go_ret
      exact ⟨rfl, B.out.below⟩

end Go.Proofs.Ytjjmoonajijnmaa.Au
