/-
  The walk of the statement on right sides, symbol by symbol. No condition.
-/
import Derived.Test.YtjjmoonajijnmaaAutoEntered
import Derived.Test.YtjjmoonajijnmaaMRef
namespace Go.Proofs.Ytjjmoonajijnmaa.Au
open Go.RowKit Go.Maps
open Go.Proofs.Ytjjmoonajijnmaa.Gr (Gram Sh gv GAt Box Bx checkN top ruleR ruleB boxed drawn much_any cell_new cell_old cell_later bool_of ivs)
open Go.Proofs.Ytjjmoonajijnmaa.Im
set_option linter.unusedVariables false

theorem BoxC.reads {wb wc : World} {rb : Nat} {rr : List Int} {ra : Option Addr} {rc : Nat} (h : BoxC wb wc rb rr ra rc) (hn : ∀ d (hd : d < rr.length), rr[d] ≠ 0) : Sep.Reads ra (ivs rr) wc := fun i hi => by
  have hi' : i < rr.length := by simpa [ivs] using hi
  obtain ⟨b, o, e, hc⟩ := h.at_ i hi' (hn i hi')
  exact ⟨b, o, e, by simpa [ivs, Gr.iv] using hc⟩

/-- None of the first j is x. -/
def Nix (L : List Itm) (x : Itm) (j : Nat) : Prop := ∀ i (h : i < L.length), i < j → L[i] ≠ x

set_option maxRecDepth 100000 in
set_option maxHeartbeats 2000000 in
theorem holds_any (L : List Itm) (x : Itm) (a : Option Addr) (c : Nat) (w : World) (hL : ItsA a L w) (hl : L.length ≤ 1000000) (hx : x ∈ L) :
    Calls Try.prog 18 #[.slice a L.length c, iv x] w (Gr.Is (.bool true) w) := by
  have KL := Lib.hid (fun w1 (k : Below w.heap.size w w1) => hL.went k)
  have HX := Lib.hid hx
  clear hL hx
  obtain ⟨x0, x1⟩ := x
  unfold iv
  dsimp only
  have mixed : Try.prog.follows .mixedOrders = true := by kernel_rfl
  have heq := eq_items
  have hgd := Try.eqGuardType51
  have hb0 := Lib.hid (boxed w (.cells #[.int .i64 x0, .int .i64 x1] 51))
  have y0 := Lib.hid (show (w.alloc (.cells #[.int .i64 x0, .int .i64 x1] 51)).cell? ⟨w.heap.size, 0, none⟩ = some (.int .i64 x0) from cell_new rfl rfl)
  have y1 := Lib.hid (show (w.alloc (.cells #[.int .i64 x0, .int .i64 x1] 51)).cell? ⟨w.heap.size, 1, none⟩ = some (.int .i64 x1) from cell_new rfl rfl)
  go_enter Try.func18, Try.ntmps18
  go_wp2
  go_loopw [5] (fun i wr => ∃ j : Nat, i = .int .i64 j ∧ j ≤ L.length ∧ Nix L (x0, x1) j ∧ Below w.heap.size w wr ∧ wr.cell? ⟨w.heap.size, 0, none⟩ = some (.int .i64 x0) ∧ wr.cell? ⟨w.heap.size, 1, none⟩ = some (.int .i64 x1)) (fun i _ => L.length - (intOf i).toNat)
  case atStart => exact ⟨0, rfl, Nat.zero_le _, fun i _ h => by omega, hb0.out, y0.out, y1.out⟩
  case round =>
    obtain ⟨j, rfl, hj, hN, hB, q0, q1⟩ := hrel
    have N := Lib.hid hN
    clear hN
    by_cases hlt : j < L.length
    · obtain ⟨b1, o1, rfl, p0, p1⟩ := (KL.out wr hB).at j hlt
      have HN := Lib.hid (fun (e : ¬ L[j] = (x0, x1)) => show Nix L (x0, x1) (j + 1) from fun i h1 h2 => by
        by_cases e' : i = j
        · subst e'
          exact e
        · exact N.out i h1 (by omega))
      generalize L[j] = z at *
      obtain ⟨z0, z1⟩ := z
      dsimp only at p0 p1
      clear N
      go_wp2
      go_quiet (fail)
      have hb2 : Below wr.heap.size wr (wr.drewN nq) := ⟨rfl, rfl, rfl, Nat.le_refl _, fun _ _ => rfl⟩
      have r0 := cell_later hb2 q0
      have r1 := cell_later hb2 q1
      have hb3 := Lib.hid (Gr.step hB hb2)
      generalize wr.drewN nq = wn at hb3 r0 r1 ⊢
      clear p0 p1 q0 q1 hB hb2 heq
      generalize hbb : eqB (z0, z1) (x0, x1) = bb
      cases bb with
      | false =>
        have HS2 := Lib.hid (HN.out (of_decide_eq_false hbb))
        clear hbb HN
        go_wp2
        go_roundw
        case rel => exact ⟨j + 1, by go_num, by omega, HS2.out, hb3.out, r0, r1⟩
        case measure => simp [intOf]; omega
      | true =>
        clear hbb HN
        go_wp2
        go_ret
        exact ⟨rfl, hb3.out⟩
    · exfalso
      obtain ⟨i, hi, e⟩ := List.mem_iff_getElem.1 HX.out
      exact N.out i hi (by omega) e

set_option maxRecDepth 100000 in
set_option maxHeartbeats 8000000 in
theorem spells_law (h : Sh) (G : Gram) (w : World) (k : GAt h G w) :
    Calls Try.prog 5 #[gv h G] w (Gr.Is (.bool true) w) := by
  have X0 := Lib.hid (Bx.start h G w 36)
  have MU := Lib.hid (fun w1 (b : Below w.heap.size w w1) => much_any h G w1 (k.went b))
  have BU := Lib.hid (fun w1 (b : Below w.heap.size w w1) => build_any h G w1 (k.went b) (fun hv => Nat.le_trans (top_small hv) (by omega)))
  have AW := Lib.hid awake_any
  have KG := Lib.hid (fun w1 (b : Below w.heap.size w w1) => k.went b)
  have RU := Lib.hid (fun (r : Int) w1 (b : Below w.heap.size w w1) => Gr.rrule_any h G r w1 (k.went b))
  clear k
  obtain ⟨x0, x1, x2, x3⟩ := X0.out.box
  unfold gv at *
  go_enter Try.func5, Try.ntmps5
  go_wp2_with fail
  refine (MU.out _ X0.out.below).mono ?_
  rintro e w1 ⟨n, rfl, hn, hb⟩
  have X1 := Lib.hid (X0.out.went hb)
  clear hb MU hn x0 x1 x2 x3 X0
  obtain ⟨x0, x1, x2, x3⟩ := X1.out.box
  by_cases hn9 : 60 < n
  · go_wp2_with (go_at_call 6; refine (AW.out _).mono ?_; rintro e w2 ⟨rfl, hb⟩; have HB := Lib.hid (Gr.step X1.out.below hb); clear hb)
    go_ret
    exact ⟨rfl, HB.out⟩
  go_wp2_with fail
  refine (BU.out _ X1.out.below).mono ?_
  rintro e w2 ⟨X, er, a, c, rfl, hbu, hX, hc, hb⟩
  have X2 := Lib.hid (X1.out.went hb)
  have SX := Lib.hid (fun w3 (b : Below w2.heap.size w2 w3) => hX.went b)
  clear hb hX x0 x1 x2 x3 X1 BU
  by_cases he : er = 0
  · subst he
    have hE := ent_of hbu
    have E := Lib.hid hE
    have hxl := hE.len
    have hrl : G.rules.length ≤ 65536 := by
      have := (many_len (Gr.check_ok hE.hv).1).1
      omega
    clear hbu hE
    have CL := Lib.hid (fun w1 (b : Below w.heap.size w w1) (L : List Itm) (al : Option Addr) (cl : Nat) (kl : ItsA al L w1) (hL : L.length ≤ 10000) => rclose_any h G E.out.hv L al cl w1 (KG.out w1 b) kl hL hrl)
    unfold gv at CL
    clear KG
    have R0 := Lib.hid (show Bx w h G w2 ∧ Below w2.heap.size w2 w2 from ⟨X2.out, .refl _ _⟩)
    go_wp2_with fail
    go_loopw [5, 6, 7, 8, 9, 10] (fun i _ _ _ _ _ wr => ∃ n : Nat, i = .int .i64 n ∧ n ≤ X.length ∧ Bx w h G wr ∧ Below w2.heap.size w2 wr) (fun i _ _ _ _ _ _ => X.length - (intOf i).toNat)
    case atStart => exact ⟨0, rfl, Nat.zero_le _, R0.out⟩
    case round =>
      obtain ⟨i, rfl, hi, hR⟩ := hrel
      have R := Lib.hid hR
      clear hR R0
      by_cases hil : i < X.length
      · obtain ⟨b0, o0, _, _, _, _, ea, _⟩ := SX.out _ (.refl _ _) i hil
        subst ea
        obtain ⟨a3, c3, a4, c4, v1, v2, v3, v4⟩ := sta_at (SX.out wr R.out.2) hil
        have hri := E.out.right _ (List.getElem_mem hil)
        have hki : X[i].1.length ≤ 10000 := Nat.le_trans (srt_len hri.1 hri.2) (Nat.le_trans (all_small E.out.hv) (by omega))
        have CI := Lib.hid (fun w1 (b : Below wr.heap.size wr w1) => CL.out w1 (R.out.1.went b).below X[i].1 a3 c3 (v3.went b) hki)
        have SP := Lib.hid (E.out.spells i hil)
        have HQ := Lib.hid (fun w' (b : Below wr.heap.size wr w') => (show w'.cell? ⟨w.heap.size, 0, none⟩ = _ ∧ w'.cell? ⟨w.heap.size, 1, none⟩ = _ ∧ w'.cell? ⟨w.heap.size, 2, none⟩ = _ ∧ w'.cell? ⟨w.heap.size, 3, none⟩ = _ ∧ w'.cell? ⟨b0, o0 + i * 2, none⟩ = some (.slice a3 X[i].1.length c3) from ⟨(R.out.1.went b).box.x0, (R.out.1.went b).box.x1, (R.out.1.went b).box.x2, (R.out.1.went b).box.x3, cell_later b v1⟩))
        have kA := drawn wr
        clear v1 v2 v3 v4 hri hki
        generalize X[i].1 = its at *
        go_wp2_with fail
        go_region_held3 (fun w' => w'.cell? ⟨w.heap.size, 0, none⟩ = some (.slice h.a1 G.terms.length h.c1) ∧ w'.cell? ⟨w.heap.size, 1, none⟩ = some (.slice h.a2 G.nons.length h.c2) ∧ w'.cell? ⟨w.heap.size, 2, none⟩ = some (.slice h.a3 G.rules.length h.c3) ∧ w'.cell? ⟨w.heap.size, 3, none⟩ = some (.int .i64 G.start) ∧ w'.cell? ⟨b0, o0 + i * 2, none⟩ = some (.slice a3 its.length c3))
          (exact HQ.out _ (by assumption))
          (first
            | (go_at_call 16; refine (CI.out _ kA).mono ?_; rintro e w3 ⟨C, a5, c5, rfl, hcc, hC, hCA, hb⟩; have k3 : Below wr.heap.size wr w3 := Gr.step kA hb; have IC := Lib.hid hC; have LC := Lib.hid (fun w4 (b : Below w3.heap.size w3 w4) => hCA.went b); clear hb hC hCA)
            | fail)
        have R3 := Lib.hid (show Bx w h G w3 ∧ Below w2.heap.size w2 w3 from ⟨R.out.1.went k3, Gr.step R.out.2 k3⟩)
        have hcl : C.length ≤ 2709 := Nat.le_trans (srt_len IC.out.1 fun x hx => clo_right ((IC.out.2 x).1 hx)) (all_small E.out.hv)
        clear HQ CI R kA k3 CL
        go_wp2_with fail
        go_loopw [7, 8, 9, 10] (fun kx _ _ _ wx => ∃ m : Nat, kx = .int .i64 m ∧ m ≤ C.length ∧ Bx w h G wx ∧ Below w2.heap.size w2 wx ∧ Below w3.heap.size w3 wx) (fun kx _ _ _ _ => C.length - (intOf kx).toNat)
        case atStart => exact ⟨0, rfl, Nat.zero_le _, R3.out.1, R3.out.2, .refl _ _⟩
        case round =>
          obtain ⟨m, rfl, hm, hR⟩ := hrel
          have R := Lib.hid hR
          clear hR R3
          by_cases hml : m < C.length
          · obtain ⟨b1, o1, rfl, p0, p1⟩ := (LC.out wr R.out.2.2).at m hml
            have hx := (IC.out.2 _).1 (List.getElem_mem hml)
            generalize C[m] = x at *
            obtain ⟨xr, xd⟩ := x
            dsimp only at p0 p1
            have hrt := clo_right hx
            have hrr := (right_iff.1 hrt).1
            have e1 : ruleB G xr = true := by
              unfold ruleB
              exact decide_eq_true hrr
            have NZ := Lib.hid (show ∀ d (hd : d < (ruleR G xr).2.length), (ruleR G xr).2[d] ≠ 0 from fun d hd q => by
              have := (sym_known E.out.hv e1 hd).1
              omega)
            have hr8 : (ruleR G xr).2.length ≤ 8 := by
              have := (right_small E.out.hv (x := (xr, ((ruleR G xr).2.length : Int))) (right_iff.2 ⟨hrr, by dsimp only; omega, by unfold rlen; dsimp only; omega⟩)).2.2.2
              dsimp only at this
              omega
            have SPX := Lib.hid (show xd = 0 → (ruleR G xr).2.length ≠ 0 → _ from fun q h0 => SP.out xr e1 h0 (q ▸ hx))
            have RX := Lib.hid (fun w' (b : Below wr.heap.size wr w') => RU.out xr w' (Gr.step R.out.1.below b))
            rw [e1] at RX
            have hbd := drawn wr
            have hbe : Below wr.heap.size wr (wr.alloc (.cells #[.int .i64 0, .slice none 0 0] 47)).drew := ((Below.refl _ _).alloc (Nat.le_refl _) _).drew
            have HT := Lib.hid (show ∀ w' u v, Below wr.heap.size wr w' → Below wr.heap.size wr ((w'.setCell ⟨wr.heap.size, 0, none⟩ u).setCell ⟨wr.heap.size, 1, none⟩ v) from fun w' u v hb => (hb.setCell (Nat.le_refl _) _).setCell (Nat.le_refl _) _)
            have Z0 := Lib.hid (show (wr.alloc (.cells #[.int .i64 0, .slice none 0 0] 47)).drew.cell? ⟨wr.heap.size, 0, none⟩ = some (.int .i64 0) from cell_new rfl rfl)
            have Z1 := Lib.hid (show (wr.alloc (.cells #[.int .i64 0, .slice none 0 0] 47)).drew.cell? ⟨wr.heap.size, 1, none⟩ = some (.slice none 0 0) from cell_new rfl rfl)
            have Z2 := Lib.hid (show (wr.alloc (.cells #[.int .i64 0, .slice none 0 0] 47)).drew.frozen? ⟨wr.heap.size, 0, none⟩ = false from Gr.free_new rfl)
            have Z3 := Lib.hid (show (wr.alloc (.cells #[.int .i64 0, .slice none 0 0] 47)).drew.frozen? ⟨wr.heap.size, 1, none⟩ = false from Gr.free_new rfl)
            have HQ := Lib.hid (fun w' (b : Below wr.heap.size wr w') => (show w'.cell? ⟨w.heap.size, 0, none⟩ = _ ∧ w'.cell? ⟨w.heap.size, 1, none⟩ = _ ∧ w'.cell? ⟨w.heap.size, 2, none⟩ = _ ∧ w'.cell? ⟨w.heap.size, 3, none⟩ = _ ∧ w'.cell? ⟨b1, o1 + m * 2, none⟩ = some (.int .i64 xr) ∧ Below wr.heap.size wr w' from ⟨(R.out.1.went b).box.x0, (R.out.1.went b).box.x1, (R.out.1.went b).box.x2, (R.out.1.went b).box.x3, cell_later b p0, b⟩))
            have P01 := Lib.hid (fun w' (b : Below wr.heap.size wr w') => (⟨cell_later b p0, cell_later b p1⟩ : w'.cell? _ = _ ∧ w'.cell? _ = _))
            generalize ruleR G xr = rv at *
            obtain ⟨rl, rr⟩ := rv
            dsimp only at RX NZ hr8 SPX
            clear e1 p0 p1 hx hrt hrr
            go_wp2_with fail
            go_region_held3 (fun w' => w'.cell? ⟨w.heap.size, 0, none⟩ = some (.slice h.a1 G.terms.length h.c1) ∧ w'.cell? ⟨w.heap.size, 1, none⟩ = some (.slice h.a2 G.nons.length h.c2) ∧ w'.cell? ⟨w.heap.size, 2, none⟩ = some (.slice h.a3 G.rules.length h.c3) ∧ w'.cell? ⟨w.heap.size, 3, none⟩ = some (.int .i64 G.start) ∧ w'.cell? ⟨b1, o1 + m * 2, none⟩ = some (.int .i64 xr) ∧ Below wr.heap.size wr w')
              (first | exact HQ.out _ (by assumption) | exact HQ.out _ (Below.alloc (by assumption) (Below.size (by assumption)) _) | exact HQ.out _ (HT.out _ _ _ (by assumption)))
              (first
                | (go_at_call 17; refine (RX.out wr.drew hbd).mono ?_; rintro e u1 ⟨ra, rc, rfl, hR, hb⟩; have l1 : Below wr.heap.size wr u1 := Gr.step hbd hb; have RD := Lib.hid hR; clear hb hR)
                | (go_at_call 17; refine (RX.out (wr.alloc (.cells #[.int .i64 0, .slice none 0 0] 47)).drew hbe).mono ?_; rintro e u1 ⟨ra, rc, rfl, hR, hb⟩; have l1 : Below wr.heap.size wr u1 := Gr.step hbe hb; have z0 := cell_later hb Z0.out; have z1 := cell_later hb Z1.out; have z2 := Gr.free_old hb Z2.out Z0.out; have z3 := Gr.free_old hb Z3.out Z0.out; have RD := Lib.hid hR; clear hb hR)
                | fail)
            all_goals
              first
                | (have BC := Lib.hid (box_new (rl := rl) (rc := rc) 47 l1 RD.out); obtain ⟨wc, hwc⟩ : ∃ wc, u1.alloc (.cells #[.int .i64 rl, .slice ra rr.length rc] 47) = wc := ⟨_, rfl⟩; rw [hwc] at BC; rw [hwc]; clear hwc RD l1; generalize u1.heap.size = rb at BC ⊢)
                | (have BC := Lib.hid (box_old (rl := rl) (rc := rc) l1 RD.out z0 z1); obtain ⟨wc, hwc⟩ : ∃ wc, (u1.setCell ⟨wr.heap.size, 0, none⟩ (.int .i64 rl)).setCell ⟨wr.heap.size, 1, none⟩ (.slice ra rr.length rc) = wc := ⟨_, rfl⟩; rw [hwc] at BC; rw [hwc]; clear hwc RD l1 z0 z1 z2 z3; generalize hrbb : wr.heap.size = rb at BC ⊢)
              have Rc := Lib.hid (show Bx w h G wc ∧ Below w2.heap.size w2 wc ∧ Below w3.heap.size w3 wc from ⟨R.out.1.went BC.out.below, Gr.step R.out.2.1 BC.out.below, Gr.step R.out.2.2 BC.out.below⟩)
              obtain ⟨g0, g1⟩ := P01.out wc BC.out.below
              have g2 := BC.out.cell
              have WAY := Lib.hid (BC.out.reads NZ.out)
              clear BC HQ HT Z0 Z1 Z2 Z3 RX P01 hbd hbe NZ R
              by_cases hd : xd = 0
              · subst hd
                by_cases hz : rr.length = 0
                · have hz2 : ((rr.length : Int) == 0) = true := by simp [hz]
                  clear SPX
                  rw [hz] at g2
                  go_wp2_with fail
                  go_roundw
                  case rel => exact ⟨m + 1, by go_num, by omega, Rc.out⟩
                  case measure => simp [intOf]; omega
                · obtain ⟨j, hj, hwk, hjm⟩ := SPX.out rfl hz
                  clear SPX
                  have hz0 : 0 < rr.length := by omega
                  have hz2 : ((rr.length : Int) == 0) = false := by rw [beq_eq_false_iff_ne]; omega
                  have d1 : decide ((j : Int) < 0) = false := decide_eq_false (by omega)
                  have d2 : decide ((X.length : Int) ≤ (j : Int)) = false := decide_eq_false (by omega)
                  have d3 : decide (X.length ≤ j) = false := decide_eq_false (by omega)
                  have CW := Lib.hid (show Calls Try.prog 11 #[.slice (some ⟨b0, o0, none⟩) X.length c, .int .i64 (i : Int), .slice ra rr.length rc] wc (Gr.Is (.int .i64 (j : Int)) wc) from by
                    have := walk_any X (some ⟨b0, o0, none⟩) c (i : Int) rr ra rc wc (SX.out wc Rc.out.2.1) E.out.small WAY.out (by omega)
                    rw [hwk] at this
                    exact this)
                  have hjl : X[j].1.length ≤ 1000000 := E.out.small.items _ (List.getElem_mem hj)
                  clear hwk
                  go_wp2_with (go_at_call 11; refine CW.out.mono ?_; rintro e w4 ⟨rfl, hb⟩; have R4 := Lib.hid (show Bx w h G w4 ∧ Below w2.heap.size w2 w4 ∧ Below w3.heap.size w3 w4 from ⟨Rc.out.1.went hb, Gr.step Rc.out.2.1 hb, Gr.step Rc.out.2.2 hb⟩); have G0 := cell_later hb g0; have G1 := cell_later hb g1; have G2 := cell_later hb g2; clear g0 g1 g2 hb)
                  obtain ⟨a6, c6, a7, c7, v1, v2, v3, v4⟩ := sta_at (SX.out w4 R4.out.2.1) hj
                  have HO := Lib.hid (fun w' (b : Below w4.heap.size w4 w') => holds_any X[j].1 (xr, (rr.length : Int)) a6 c6 w' (v3.went b) hjl hjm)
                  unfold iv at HO
                  dsimp only at HO
                  have HQ := Lib.hid (fun w' (b : Below w4.heap.size w4 w') => (show w'.cell? ⟨b0, o0 + j * 2, none⟩ = some (.slice a6 X[j].1.length c6) ∧ w'.cell? ⟨b1, o1 + m * 2, none⟩ = some (.int .i64 xr) ∧ w'.cell? ⟨rb, 1, none⟩ = some (.slice ra rr.length rc) from ⟨cell_later b v1, cell_later b G0, cell_later b G2⟩))
                  have kA := drawn w4
                  clear v1 v2 v3 v4 hjm WAY Rc CW G0 G1 G2 SX
                  generalize X[j].1 = jts at *
                  go_wp2_with fail
                  go_region_held3 (fun w' => w'.cell? ⟨b0, o0 + j * 2, none⟩ = some (.slice a6 jts.length c6) ∧ w'.cell? ⟨b1, o1 + m * 2, none⟩ = some (.int .i64 xr) ∧ w'.cell? ⟨rb, 1, none⟩ = some (.slice ra rr.length rc))
                    (exact HQ.out _ (by assumption))
                    (first
                      | (go_at_call 18; refine (HO.out _ kA).mono ?_; rintro e w5 ⟨rfl, hb⟩; have k5 : Below w4.heap.size w4 w5 := Gr.step kA hb; clear hb)
                      | fail)
                  have R5 := Lib.hid (show Bx w h G w5 ∧ Below w2.heap.size w2 w5 ∧ Below w3.heap.size w3 w5 from ⟨R4.out.1.went k5, Gr.step R4.out.2.1 k5, Gr.step R4.out.2.2 k5⟩)
                  clear R4 HO HQ kA
                  go_wp2_with fail
                  go_roundw
                  case rel => exact ⟨m + 1, by go_num, by omega, R5.out⟩
                  case measure => simp [intOf]; omega
              · have hd2 : (xd != 0) = true := by simpa using hd
                clear SPX
                go_wp2_with fail
                go_roundw
                case rel => exact ⟨m + 1, by go_num, by omega, Rc.out⟩
                case measure => simp [intOf]; omega
          · have hE : m = C.length := by omega
            subst hE
            go_wp2_with fail
            go_roundw
            case rel => exact ⟨i + 1, by go_num, by omega, R.out.1, R.out.2.1⟩
            case measure => simp [intOf]; omega
      · have hE : i = X.length := by omega
        subst hE
        go_wp2_with (go_at_call 6; refine (AW.out _).mono ?_; rintro e w3 ⟨rfl, hb⟩; have HB := Lib.hid (Gr.step R.out.1.below hb); clear hb)
        go_ret
        exact ⟨rfl, HB.out⟩
  · have heb : (er != 0) = true := by simpa using he
    clear SX hbu he KG
    go_wp2_with (go_at_call 6; refine (AW.out _).mono ?_; rintro e w3 ⟨rfl, hb⟩; have HB := Lib.hid (Gr.step X2.out.below hb); clear hb)
    go_ret
    exact ⟨rfl, HB.out⟩

end Go.Proofs.Ytjjmoonajijnmaa.Au
