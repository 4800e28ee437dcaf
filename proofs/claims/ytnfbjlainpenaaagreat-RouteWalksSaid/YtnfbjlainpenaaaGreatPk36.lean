/- A part of the proof. -/
import Derived.Test.YtnfbjlainpenaaaGreatPk35
set_option maxHeartbeats 2000000
set_option maxRecDepth 100000
set_option linter.unusedVariables false
namespace Go.Proofs.YtnfbjlainpenaaaGreat
open Go.RowKit Go.Maps
namespace Im
open Gr (Gram Sh gv GAt Bx checkN zAz)
theorem zFQ {P : Itm -> Prop} {w w' : World} (h : ∀ x, ¬ P x) (hb : Below w.heap.size w w') : zCS P w (.returned (.slice none 0 0)) w' := ⟨[], none, 0, rfl, Is.nil h, ItsV.nil _ _ _, hb⟩
theorem zHh (h : Sh) (G : Gram) (w : World) (k : GAt h G w) :
  Calls Tryz.prog 39 #[gv h G] w (zCS (fun x => checkN G = 0 /\ x = ((G.rules.length : Int), 0)) w) := by
 have C := zNR (fun w1 (b : Below w.heap.size w w1) => zAz h G w1 (k.went b))
 have A := zNR (fun w1 (b : Below w.heap.size w w1) => zDr h G w1 (k.went b))
 clear k
 have X := zNR (Bx.start h G w 25)
 unfold gv at *
 by_cases hc : checkN G = 0
 ·rw [hc] at C
  go_enter Tryz.func39, Tryz.ntmps39
  go_wp2_with (first
   | (go_at_call 37; refine (C.out _ X.out.below).mono ?_; rintro e w1 ⟨rfl, hb⟩; have X1 := zNR (X.out.went hb); obtain ⟨g0, g1, g2, g3⟩ := X1.out.box; clear hb)
   | (go_at_call 67; refine (A.out _ X1.out.below).mono ?_; rintro e w2 ⟨rfl, hb⟩; have X2 := zNR (X1.out.went hb); clear hb))
  go_ret
  have hB := X2.out.below.size
  exact ⟨[((G.rules.length : Int), 0)], _, _, rfl, ⟨zCO _, fun x => by rw [List.mem_singleton]; exact ⟨fun e => ⟨hc, e⟩, fun e => e.2⟩⟩, zBi 108 w.heap.size w2.heap.size ((G.rules.length : Int), 0) w2 rfl hB, (X2.out.alloc _).below⟩
 ·have hcb : (checkN G == 0) = false := by simpa using hc
  go_enter Tryz.func39, Tryz.ntmps39
  go_wp2_with (go_at_call 37; refine (C.out _ X.out.below).mono ?_; rintro e w1 ⟨rfl, hb⟩; have X1 := zNR (X.out.went hb); clear hb)
  go_ret
  exact zFQ (fun x k => hc k.1) X1.out.below
end Im
namespace Im
open Gr (zAA)
def eqB (x y : Itm) : Bool := decide (x = y)
theorem zLZ {x y : Itm} : eqB x y = true ↔ x = y := decide_eq_true_iff
theorem zLc : Tryz.prog.underlying 108 = some (.struct (Tryz.prog.fieldsOf 108)) := by kernel_rfl
theorem zCi (a b c d : Int) (w : World) : (Op.equalIn 10000 108 (.agg #[.int .i64 a, .int .i64 b]) (.agg #[.int .i64 c, .int .i64 d])).run Tryz.prog w = .ok (eqB (a, b) (c, d)) w := by
 unfold eqB
 rw [show (10000 : Nat) = 9999 + 1 from rfl, run_equalIn_agg w 9999 108 _ _ zLc Tryz.stoodInHeld108]
 have u3 := Tryz.underlying3
 have a3 := Tryz.isAgg3
 have z3 := Tryz.sizeOf3
 simp only [Program.fieldsOf, Tryz.underlying108]
 go_simp
 by_cases h1 : a = c <;> by_cases h2 : b = d <;> simp [h1, h2]
theorem zJu (a b c d : Int) (w : World) : (binOp .eql 108 (.agg #[.int .i64 a, .int .i64 b]) (.agg #[.int .i64 c, .int .i64 d])).run Tryz.prog w = .ok (.bool (eqB (a, b) (c, d))) w := by
 rw [run_eql_struct, zCi]
 rfl
theorem zKO (a b c d : Int) (w : World) : (binOp .neq 108 (.agg #[.int .i64 a, .int .i64 b]) (.agg #[.int .i64 c, .int .i64 d])).run Tryz.prog w = .ok (.bool (!eqB (a, b) (c, d))) w := by
 rw [run_neq_struct, zCi]
 rfl
def zA8 (X Y : List Itm) (j : Nat) : Prop := ∀ i (h : i < X.length) (k : i < Y.length), i < j -> X[i] = Y[i]
theorem zKk {X Y : List Itm} (hl : X.length = Y.length) (h : zA8 X Y X.length) : X = Y := List.ext_getElem hl fun i h1 h2 => h i h1 h2 h1
theorem zJC (X Y : List Itm) (a b : Option Addr) (c d : Nat) (w : World) (hX : ItsA a X w) (hY : ItsA b Y w) (hl : X.length <= 1000000) :
  Calls Tryz.prog 59 #[.slice a X.length c, .slice b Y.length d] w (Gr.Is (.bool (decide (X = Y))) w) := by
 by_cases hn : X.length = Y.length
 ·have KX := zNR (fun w1 (k : Below w.heap.size w w1) => hX.went k)
  have KY := zNR (fun w1 (k : Below w.heap.size w w1) => hY.went k)
  clear hX hY
  have mixed : Tryz.prog.follows .mixedOrders = true := by kernel_rfl
  have hne := zKO
  have hgd := Tryz.eqGuardType108
  go_enter Tryz.func59, Tryz.ntmps59
  go_wp2
  go_loopw [5] (fun i wr => ∃ j : Nat, i = .int .i64 j /\ j <= X.length /\ zA8 X Y j /\ Below w.heap.size w wr) (fun i _ => X.length - (intOf i).toNat)
  case atStart => exact ⟨0, rfl, Nat.zero_le _, fun i _ _ h => by omega, .refl _ _⟩
  case round =>
   obtain ⟨j, rfl, hj, hS, hB⟩ := hrel
   have HS := zNR hS
   clear hS
   by_cases hlt : j < X.length
   ·have hlt' : j < Y.length := by omega
    obtain ⟨b1, o1, rfl, p0, p1⟩ := (KX.out wr hB).at j hlt
    obtain ⟨b2, o2, rfl, q0, q1⟩ := (KY.out wr hB).at j hlt'
    have HN := zNR (fun (e : X[j] = Y[j]) i (h1 : i < X.length) (h2 : i < Y.length) (h3 : i < j + 1) => show X[i] = Y[i] from by
     by_cases e' : i = j
     ·subst e'
      exact e
     ·exact HS.out i h1 h2 (by omega))
    have HD := zNR (fun (e : ¬ X[j] = Y[j]) (k : X = Y) => e (by simp only [k]))
    generalize X[j] = x at *
    generalize Y[j] = y at *
    obtain ⟨x0, x1⟩ := x
    obtain ⟨y0, y1⟩ := y
    dsimp only at p0 p1 q0 q1
    go_wp2
    go_quiet (fail)
    have hb2 : Below w.heap.size w (wr.drewN nq) := hB.trans ⟨rfl, rfl, rfl, Nat.le_refl _, fun _ _ => rfl⟩
    generalize wr.drewN nq = wn at hb2 ⊢
    clear p0 p1 q0 q1 hB hne
    generalize hbb : eqB (x0, x1) (y0, y1) = bb
    cases bb with
    | true =>
     have HS2 := zNR (show zA8 X Y (j + 1) from HN.out (zLZ.1 hbb))
     clear hbb HN HD HS
     go_wp2
     go_roundw
     case rel => exact ⟨j + 1, by go_num, by omega, HS2.out, hb2⟩
     case measure => simp [intOf]; omega
    | false =>
     have HE := zNR (HD.out (of_decide_eq_false hbb))
     clear hbb HN HD HS
     go_wp2
     go_ret
     exact ⟨zAA (decide_eq_false HE.out), hb2⟩
   ·have hE : j = X.length := by omega
    have HE := zNR (show X = Y from zKk hn (by rw [← hE]; exact HS.out))
    go_wp2
    go_ret
    exact ⟨zAA (decide_eq_true HE.out), hB⟩
 ·have hne : ¬ X = Y := fun e => hn (by rw [e])
  clear hX hY
  go_enter Tryz.func59, Tryz.ntmps59
  go_wp2
  go_ret
  exact ⟨zAA (decide_eq_false hne), .refl _ _⟩
end Im
namespace Im
open Gr (Gram Sh gv GAt step boxed zAQ zAJ zEw zAA)
theorem zMZ (h : Sh) (G : Gram) (x : Itm) (w : World) (k : GAt h G w) :
  Calls Tryz.prog 56 #[gv h G, iv x] w (Gr.Is (.bool (zAC G x)) w) := by
 have R := zNR (fun w1 (b : Below w.heap.size w w1) => zEw h G x.1 w1 (k.went b))
 clear k
 rw [zEG]
 obtain ⟨xr, xd⟩ := x
 generalize zAJ G (xr, xd).1 = r at R ⊢
 generalize zAQ G (xr, xd).1 = rb at R ⊢
 have X := zNR (Bi.start h G (xr, xd) w 25 108)
 unfold gv iv
 dsimp only at R X ⊢
 go_enter Tryz.func56, Tryz.ntmps56
 go_wp2_with (go_at_call 84; refine (R.out _ X.out.below).mono ?_; rintro e w1 ⟨a, c, rfl, hr, hb⟩; have X := zNR ((X.out.went hb).alloc (.cells #[.int .i64 r.1, .slice a r.2.length c] 59)); have HR := zNR hr; have y0 := X.out.i0; have y1 := X.out.i1; clear hb hr)
 all_goals
  go_ret
  exact ⟨zAA (by first | (simp_all; done) | (simp_all; omega)), X.out.below⟩
theorem zHi {G : Gram} {x : Itm} (h : zAC G x = true) : behB G x = decide (x.2 < ((zAJ G x.1).2.length : Int)) := by
 unfold behB rlen
 rw [h, Bool.true_and]
theorem zGj {G : Gram} {x : Itm} (h : zAC G x = false) : behB G x = false := by
 unfold behB
 rw [h, Bool.false_and]
def zB3 (x y : Itm) : Bool := decide (ltP x y)
theorem zI7 (x y : Itm) (w : World) : Calls Tryz.prog 85 #[iv x, iv y] w fun e w' => e = .returned (.bool (zB3 x y)) /\ ∃ q os', w' = Go.Sort.grow (w.drewN q) os' := by
 unfold zB3 ltP
 obtain ⟨x0, x1⟩ := x
 obtain ⟨y0, y1⟩ := y
 unfold iv
 dsimp only
 go_enter Tryz.func85, Tryz.ntmps85
 go_wp2
 all_goals
  go_ret
  exact ⟨zAA (by first | (simp; omega) | (simp_all; done) | (simp_all; omega)), ((Gw.refl w).alloc _).alloc _⟩
theorem zHF (h : Sh) (G : Gram) (w : World) (k : GAt h G w) :
  Calls Tryz.prog 31 #[gv h G] w (zCS (fun x => x = ((G.rules.length : Int), 0)) w) := by
 have t := k.r2
 clear k
 unfold gv
 go_enter Tryz.func31, Tryz.ntmps31
 go_wp2
 go_ret
 exact ⟨[((G.rules.length : Int), 0)], _, _, rfl, ⟨zCO _, fun x => by rw [List.mem_singleton]⟩, zBi 108 w.heap.size _ ((G.rules.length : Int), 0) _ (by simp) (by simp), Gr.step (boxed _ _) (boxed _ _)⟩
end Im
namespace Im
open Gr (Gram Sh gv GAt Bx zAQ zAJ zBc zBA zCd zB7 ivs zJk zAB zAF cell_later zAA)
theorem Gw.trans {a b c : World} (h : Gw a b) (k : Gw b c) : Gw a c := by
 obtain ⟨n, os, rfl⟩ := h
 obtain ⟨m, os', rfl⟩ := k
 exact ⟨n + m, os ++ os', by
  show Go.Sort.grow (Go.Sort.grow ((a.drewN n).drewN m) os) os' = _
  rw [Go.Sort.grow_grow, World.drewN_drewN]⟩
theorem zGP (h : Sh) (G : Gram) (i : Int) (w : World) (k : GAt h G w) :
  Calls Tryz.prog 84 #[gv h G, .int .i64 i] w (fun e w' => zJk (zAJ G i) (zAQ G i) w e w' /\ Gw w w') := by
 have X := zNR (Bx.start h G w 25)
 have hc3 := k.r2
 by_cases h0 : i < 0 \/ (G.rules.length : Int) < i
 ·obtain ⟨e1, e2⟩ := zCd h0
  rw [e1, e2]
  clear k e1 e2
  by_cases h1 : i < 0
  ·clear h0
   unfold gv
   go_enter Tryz.func84, Tryz.ntmps84
   go_wp2
   exact bodyPost_ret (v := .tuple #[.agg #[.int .i64 0, .slice Option.none 0 0], .bool false]) (by simp [results, Tryz.results84, go_sem]) rfl ⟨⟨_, _, rfl, .nil _ _, (X.out.alloc _).below⟩, (by first | exact ((Gw.refl w).alloc _).alloc _ | exact (((Gw.refl w).alloc _).alloc _).alloc _)⟩
  ·have h2 : (G.rules.length : Int) < i := by omega
   clear h0
   unfold gv
   go_enter Tryz.func84, Tryz.ntmps84
   go_wp2
   exact bodyPost_ret (v := .tuple #[.agg #[.int .i64 0, .slice Option.none 0 0], .bool false]) (by simp [results, Tryz.results84, go_sem]) rfl ⟨⟨_, _, rfl, .nil _ _, (X.out.alloc _).below⟩, (by first | exact ((Gw.refl w).alloc _).alloc _ | exact (((Gw.refl w).alloc _).alloc _).alloc _)⟩
 ·by_cases h1 : i = (G.rules.length : Int)
  ·subst h1
   obtain ⟨e1, e2⟩ := zBA G
   rw [e1, e2]
   clear k e1 e2 h0
   unfold gv
   go_enter Tryz.func84, Tryz.ntmps84
   go_wp2
   refine bodyPost_ret (v := .tuple #[.agg #[.int .i64 0, .slice (some ⟨w.heap.size + 1 + 1, 0, Option.none⟩) 1 1], .bool true]) (by simp [results, Tryz.results84, go_sem]) rfl ⟨⟨_, _, rfl, zB7 (zAB (by simp) rfl), ((X.out.alloc _).alloc _).below⟩, (by first | exact ((Gw.refl w).alloc _).alloc _ | exact (((Gw.refl w).alloc _).alloc _).alloc _)⟩
  ·obtain ⟨j, rfl⟩ : ∃ j : Nat, i = (j : Int) := ⟨i.toNat, by omega⟩
   have hj : j < G.rules.length := by omega
   obtain ⟨e1, e2⟩ := zBc hj
   rw [e1, e2]
   obtain ⟨a1, c1, a2, c2, a3, c3⟩ := h
   obtain ⟨b, o, ra, rc, e, g1, g2, g3, g4, g5⟩ := k.rules j hj
   dsimp only at e
   subst e
   generalize G.rules[j] = r at g1 g2 g3 g4 g5 ⊢
   have hblt : b < w.heap.size := World.block_lt_of_cell? w ⟨b, o + j * 2, Option.none⟩ g1
   have HR := zNR (show Sep.Reads ra (ivs r.2) w from g3)
   clear k e1 e2 h0 h1 g3
   unfold gv
   dsimp only
   go_enter Tryz.func84, Tryz.ntmps84
   go_wp2
   exact bodyPost_ret (v := .tuple #[.agg #[.int .i64 r.1, .slice ra r.2.length rc], .bool true]) (by simp [results, Tryz.results84, go_sem]) rfl ⟨⟨_, _, rfl, HR.out.below (X.out.alloc _).below (Nat.le_refl _), (X.out.alloc _).below⟩, (by first | exact ((Gw.refl w).alloc _).alloc _ | exact (((Gw.refl w).alloc _).alloc _).alloc _)⟩
theorem zEv (h : Sh) (G : Gram) (x : Itm) (w : World) (k : GAt h G w) :
  Calls Tryz.prog 56 #[gv h G, iv x] w (fun e w' => e = .returned (.bool (zAC G x)) /\ Gw w w') := by
 have R := zNR (fun w1 (b : Below w.heap.size w w1) => zGP h G x.1 w1 (k.went b))
 clear k
 rw [zEG]
 obtain ⟨xr, xd⟩ := x
 generalize zAJ G (xr, xd).1 = r at R ⊢
 generalize zAQ G (xr, xd).1 = rb at R ⊢
 have G0 := zNR (((Gw.refl w).alloc (.cells #[.slice h.a1 G.terms.length h.c1, .slice h.a2 G.nons.length h.c2, .slice h.a3 G.rules.length h.c3, .int .i64 G.start] 25)).alloc (.cells #[.int .i64 xr, .int .i64 xd] 108))
 have X := zNR (Bi.start h G (xr, xd) w 25 108)
 unfold gv iv
 dsimp only at R X ⊢
 go_enter Tryz.func56, Tryz.ntmps56
 go_wp2_with (go_at_call 84; refine (R.out _ X.out.below).mono ?_; rintro e w1 ⟨⟨a, c, rfl, hr, hb⟩, hgw⟩; have GG := zNR ((G0.out.trans hgw).alloc (.cells #[.int .i64 r.1, .slice a r.2.length c] 59)); clear hgw; have X := zNR ((X.out.went hb).alloc (.cells #[.int .i64 r.1, .slice a r.2.length c] 59)); have HR := zNR hr; have y0 := X.out.i0; have y1 := X.out.i1; clear hb hr)
 all_goals
  go_ret
  exact ⟨zAA (by first | (simp_all; done) | (simp_all; omega)), GG.out⟩
theorem zDc (h : Sh) (G : Gram) (x : Itm) (w : World) (k : GAt h G w) :
  Calls Tryz.prog 58 #[gv h G, iv x] w (fun e w' => e = .returned (.tuple #[.int .i64 (behV G x), .bool (behB G x)]) /\ Gw w w') := by
 have R := zNR (fun w1 (b : Below w.heap.size w w1) => zGP h G x.1 w1 (k.went b))
 have RR := zNR (fun w1 (b : Below w.heap.size w w1) => zEv h G x w1 (k.went b))
 have HR := zNR (zAU (G := G) (x := x))
 have HT := zNR (zHi (G := G) (x := x))
 have HF := zNR (zGj (G := G) (x := x))
 clear k
 unfold behV
 have G0 := zNR (((Gw.refl w).alloc (.cells #[.slice h.a1 G.terms.length h.c1, .slice h.a2 G.nons.length h.c2, .slice h.a3 G.rules.length h.c3, .int .i64 G.start] 25)).alloc (.cells #[.int .i64 x.1, .int .i64 x.2] 108))
 have X := zNR (Bi.start h G x w 25 108)
 unfold rlen at HR
 generalize zAJ G x.1 = r at R HR HT ⊢
 generalize zAQ G x.1 = rb at R ⊢
 generalize behB G x = bb at HT HF ⊢
 generalize zAC G x = rr at RR HR HT HF
 obtain ⟨xr, xd⟩ := x
 unfold gv iv at *
 dsimp only at R RR X HR HT HF ⊢
 cases rr with
 | false =>
  obtain rfl := HF.out rfl
  clear HT HF HR
  go_enter Tryz.func58, Tryz.ntmps58
  go_wp2_with (first
   | (go_at_call 84; refine (R.out _ X.out.below).mono ?_; rintro e w1 ⟨⟨a, c, rfl, hr, hb⟩, hgw⟩; have GG := zNR ((G0.out.trans hgw).alloc (.cells #[.int .i64 r.1, .slice a r.2.length c] 59)); clear hgw; have X1 := zNR ((X.out.went hb).alloc (.cells #[.int .i64 r.1, .slice a r.2.length c] 59)); have y0 := X1.out.i0; have y1 := X1.out.i1; obtain ⟨g0, g1, g2, g3⟩ := X1.out.bx.box; clear hb hr)
   | (go_at_call 56; refine (RR.out _ X1.out.below).mono ?_; rintro e w2 ⟨rfl, hgw⟩; have hb := hgw.below; have GH := zNR (GG.out.trans hgw); clear hgw; have X2 := zNR (X1.out.went hb); clear hb))
  go_ret2
  exact ⟨rfl, GH.out⟩
 | true =>
  have hbb := HT.out rfl
  obtain ⟨_, h1, _⟩ := HR.out.1 rfl
  replace h1 : 0 <= xd := h1
  clear HT HF HR
  by_cases hlt : xd < (r.2.length : Int)
  ·obtain ⟨j, rfl⟩ := Int.eq_ofNat_of_zero_le h1
   have hj : j < r.2.length := by omega
   rw [decide_eq_true hlt] at hbb
   subst hbb
   rw [if_pos rfl, show r.2.getD (Int.toNat (j : Int)) 0 = r.2[j] by simp [hj]]
   go_enter Tryz.func58, Tryz.ntmps58
   go_wp2_with (first
    | (go_at_call 84; refine (R.out _ X.out.below).mono ?_; rintro e w1 ⟨⟨a, c, rfl, hr, hb⟩, hgw⟩; have GG := zNR ((G0.out.trans hgw).alloc (.cells #[.int .i64 r.1, .slice a r.2.length c] 59)); clear hgw; have X1 := zNR ((X.out.went hb).alloc (.cells #[.int .i64 r.1, .slice a r.2.length c] 59)); have y0 := X1.out.i0; have y1 := X1.out.i1; obtain ⟨g0, g1, g2, g3⟩ := X1.out.bx.box; obtain ⟨b2, o2, e2, z⟩ := hr j (by simpa [Gr.ivs] using hj); subst e2; have z := zAF (o := .cells #[.int .i64 r.1, .slice (some ⟨b2, o2, none⟩) r.2.length c] 59) z; clear hb hr)
    | (go_at_call 56; refine (RR.out _ X1.out.below).mono ?_; rintro e w2 ⟨rfl, hgw⟩; have hb := hgw.below; have GH := zNR (GG.out.trans hgw); clear hgw; have X2 := zNR (X1.out.went hb); have z := cell_later hb z; have y0 := X2.out.i0; have y1 := X2.out.i1; have r0 := cell_later hb (zAB (w := w1) (cs := #[.int .i64 r.1, .slice (some ⟨b2, o2, none⟩) r.2.length c]) (T := 59) (n := w1.heap.size) (j := 1) rfl rfl); clear hb))
   go_ret2
   exact ⟨by simp [Gr.ivs, Gr.iv], GH.out⟩
  ·rw [decide_eq_false hlt] at hbb
   subst hbb
   have h3 : (r.2.length : Int) <= xd := by omega
   go_enter Tryz.func58, Tryz.ntmps58
   go_wp2_with (first
    | (go_at_call 84; refine (R.out _ X.out.below).mono ?_; rintro e w1 ⟨⟨a, c, rfl, hr, hb⟩, hgw⟩; have GG := zNR ((G0.out.trans hgw).alloc (.cells #[.int .i64 r.1, .slice a r.2.length c] 59)); clear hgw; have X1 := zNR ((X.out.went hb).alloc (.cells #[.int .i64 r.1, .slice a r.2.length c] 59)); have y0 := X1.out.i0; have y1 := X1.out.i1; obtain ⟨g0, g1, g2, g3⟩ := X1.out.bx.box; clear hb hr)
    | (go_at_call 56; refine (RR.out _ X1.out.below).mono ?_; rintro e w2 ⟨rfl, hgw⟩; have hb := hgw.below; have GH := zNR (GG.out.trans hgw); clear hgw; have X2 := zNR (X1.out.went hb); have y0 := X2.out.i0; have y1 := X2.out.i1; have r0 := cell_later hb (zAB (w := w1) (cs := #[.int .i64 r.1, .slice a r.2.length c]) (T := 59) (n := w1.heap.size) (j := 1) rfl rfl); clear hb))
   go_ret2
   exact ⟨rfl, GH.out⟩
