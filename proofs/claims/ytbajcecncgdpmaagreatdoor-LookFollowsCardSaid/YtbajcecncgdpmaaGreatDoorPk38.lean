/- A part of the proof. -/
import Derived.Test.YtbajcecncgdpmaaGreatDoorPk36
set_option maxHeartbeats 2000000
set_option maxRecDepth 100000
set_option linter.unusedVariables false
namespace Go.Proofs.YtbajcecncgdpmaaGreatDoor
namespace Im
open Go.RowKit Go.Maps
open Gr (Gram Sh gv GAt Bx zAN zAB zAb zAU zC4 zBk ivs zMm zAA zAJ cell_later zAD)
theorem Gw.trans {a b c : World} (h : Gw a b) (k : Gw b c) : Gw a c := by
 obtain ⟨n, os, rfl⟩ := h
 obtain ⟨m, os', rfl⟩ := k
 exact ⟨n + m, os ++ os', by
  show Go.Sort.grow (Go.Sort.grow ((a.drewN n).drewN m) os) os' = _
  rw [Go.Sort.grow_grow, World.drewN_drewN]⟩
theorem zIc (h : Sh) (G : Gram) (i : Int) (w : World) (k : GAt h G w) :
  Calls Tryz.prog 12 #[gv h G, .int .i64 i] w (fun e w' => zMm (zAB G i) (zAN G i) w e w' /\ Gw w w') := by
 have X := zSt (Bx.start h G w 25)
 have hc3 := k.r2
 by_cases h0 : i < 0 \/ (G.rules.length : Int) < i
 ·obtain ⟨e1, e2⟩ := zC4 h0
  rw [e1, e2]
  clear k e1 e2
  by_cases h1 : i < 0
  ·clear h0
   unfold gv
   go_enter Tryz.func12, Tryz.ntmps12
   go_wp2
   exact bodyPost_ret (v := .tuple #[.agg #[.int .i64 0, .slice Option.none 0 0], .bool false]) (by simp [results, Tryz.results12, go_sem]) rfl ⟨⟨_, _, rfl, .nil _ _, (X.out.alloc _).below⟩, (by first | exact ((Gw.refl w).alloc _).alloc _ | exact (((Gw.refl w).alloc _).alloc _).alloc _)⟩
  ·have h2 : (G.rules.length : Int) < i := by omega
   clear h0
   unfold gv
   go_enter Tryz.func12, Tryz.ntmps12
   go_wp2
   exact bodyPost_ret (v := .tuple #[.agg #[.int .i64 0, .slice Option.none 0 0], .bool false]) (by simp [results, Tryz.results12, go_sem]) rfl ⟨⟨_, _, rfl, .nil _ _, (X.out.alloc _).below⟩, (by first | exact ((Gw.refl w).alloc _).alloc _ | exact (((Gw.refl w).alloc _).alloc _).alloc _)⟩
 ·by_cases h1 : i = (G.rules.length : Int)
  ·subst h1
   obtain ⟨e1, e2⟩ := zAU G
   rw [e1, e2]
   clear k e1 e2 h0
   unfold gv
   go_enter Tryz.func12, Tryz.ntmps12
   go_wp2
   refine bodyPost_ret (v := .tuple #[.agg #[.int .i64 0, .slice (some ⟨w.heap.size + 1 + 1, 0, Option.none⟩) 1 1], .bool true]) (by simp [results, Tryz.results12, go_sem]) rfl ⟨⟨_, _, rfl, zBk (zAA (by simp) rfl), ((X.out.alloc _).alloc _).below⟩, (by first | exact ((Gw.refl w).alloc _).alloc _ | exact (((Gw.refl w).alloc _).alloc _).alloc _)⟩
  ·obtain ⟨j, rfl⟩ : ∃ j : Nat, i = (j : Int) := ⟨i.toNat, by omega⟩
   have hj : j < G.rules.length := by omega
   obtain ⟨e1, e2⟩ := zAb hj
   rw [e1, e2]
   obtain ⟨a1, c1, a2, c2, a3, c3⟩ := h
   obtain ⟨b, o, ra, rc, e, g1, g2, g3, g4, g5⟩ := k.rules j hj
   dsimp only at e
   subst e
   generalize G.rules[j] = r at g1 g2 g3 g4 g5 ⊢
   have hblt : b < w.heap.size := World.block_lt_of_cell? w ⟨b, o + j * 2, Option.none⟩ g1
   have HR := zSt (show Sep.Reads ra (ivs r.2) w from g3)
   clear k e1 e2 h0 h1 g3
   unfold gv
   dsimp only
   go_enter Tryz.func12, Tryz.ntmps12
   go_wp2
   exact bodyPost_ret (v := .tuple #[.agg #[.int .i64 r.1, .slice ra r.2.length rc], .bool true]) (by simp [results, Tryz.results12, go_sem]) rfl ⟨⟨_, _, rfl, HR.out.below (X.out.alloc _).below (Nat.le_refl _), (X.out.alloc _).below⟩, (by first | exact ((Gw.refl w).alloc _).alloc _ | exact (((Gw.refl w).alloc _).alloc _).alloc _)⟩
theorem zGq (h : Sh) (G : Gram) (x : Itm) (w : World) (k : GAt h G w) :
  Calls Tryz.prog 43 #[gv h G, iv x] w (fun e w' => e = .returned (.bool (zAG G x)) /\ Gw w w') := by
 have R := zSt (fun w1 (b : Below w.heap.size w w1) => zIc h G x.1 w1 (k.went b))
 clear k
 rw [zFp]
 obtain ⟨xr, xd⟩ := x
 generalize zAB G (xr, xd).1 = r at R ⊢
 generalize zAN G (xr, xd).1 = rb at R ⊢
 have G0 := zSt (((Gw.refl w).alloc (.cells #[.slice h.a1 G.terms.length h.c1, .slice h.a2 G.nons.length h.c2, .slice h.a3 G.rules.length h.c3, .int .i64 G.start] 25)).alloc (.cells #[.int .i64 xr, .int .i64 xd] 57))
 have X := zSt (Bi.start h G (xr, xd) w 25 57)
 unfold gv iv
 dsimp only at R X ⊢
 go_enter Tryz.func43, Tryz.ntmps43
 go_wp2_with (go_at_call 12; refine (R.out _ X.out.below).mono ?_; rintro e w1 ⟨⟨a, c, rfl, hr, hb⟩, hgw⟩; have GG := zSt ((G0.out.trans hgw).alloc (.cells #[.int .i64 r.1, .slice a r.2.length c] 41)); clear hgw; have X := zSt ((X.out.went hb).alloc (.cells #[.int .i64 r.1, .slice a r.2.length c] 41)); have HR := zSt hr; have y0 := X.out.i0; have y1 := X.out.i1; clear hb hr)
 all_goals
  go_ret
  exact ⟨zAD (by first | (simp_all; done) | (simp_all; omega)), GG.out⟩
theorem zJS (h : Sh) (G : Gram) (x : Itm) (w : World) (k : GAt h G w) :
  Calls Tryz.prog 17 #[gv h G, iv x] w (fun e w' => e = .returned (.tuple #[.int .i64 (behV G x), .bool (behB G x)]) /\ Gw w w') := by
 have R := zSt (fun w1 (b : Below w.heap.size w w1) => zIc h G x.1 w1 (k.went b))
 have RR := zSt (fun w1 (b : Below w.heap.size w w1) => zGq h G x w1 (k.went b))
 have HR := zSt (zAK (G := G) (x := x))
 have HT := zSt (zF8 (G := G) (x := x))
 have HF := zSt (zEn (G := G) (x := x))
 clear k
 unfold behV
 have G0 := zSt (((Gw.refl w).alloc (.cells #[.slice h.a1 G.terms.length h.c1, .slice h.a2 G.nons.length h.c2, .slice h.a3 G.rules.length h.c3, .int .i64 G.start] 25)).alloc (.cells #[.int .i64 x.1, .int .i64 x.2] 57))
 have X := zSt (Bi.start h G x w 25 57)
 unfold rlen at HR
 generalize zAB G x.1 = r at R HR HT ⊢
 generalize zAN G x.1 = rb at R ⊢
 generalize behB G x = bb at HT HF ⊢
 generalize zAG G x = rr at RR HR HT HF
 obtain ⟨xr, xd⟩ := x
 unfold gv iv at *
 dsimp only at R RR X HR HT HF ⊢
 cases rr with
 | false =>
  obtain rfl := HF.out rfl
  clear HT HF HR
  go_enter Tryz.func17, Tryz.ntmps17
  go_wp2_with (first
   | (go_at_call 12; refine (R.out _ X.out.below).mono ?_; rintro e w1 ⟨⟨a, c, rfl, hr, hb⟩, hgw⟩; have GG := zSt ((G0.out.trans hgw).alloc (.cells #[.int .i64 r.1, .slice a r.2.length c] 41)); clear hgw; have X1 := zSt ((X.out.went hb).alloc (.cells #[.int .i64 r.1, .slice a r.2.length c] 41)); have y0 := X1.out.i0; have y1 := X1.out.i1; obtain ⟨g0, g1, g2, g3⟩ := X1.out.bx.box; clear hb hr)
   | (go_at_call 43; refine (RR.out _ X1.out.below).mono ?_; rintro e w2 ⟨rfl, hgw⟩; have hb := hgw.below; have GH := zSt (GG.out.trans hgw); clear hgw; have X2 := zSt (X1.out.went hb); clear hb))
  go_ret2
  exact ⟨rfl, GH.out⟩
 | true =>
  have hbb := HT.out rfl
  obtain ⟨_, h1, _⟩ := HR.out.1 rfl
  replace h1 : 0 <= xd := h1
  clear HT HF HR
  by_cases hlt : xd < (r.2.length : Int)
  ·obtain ⟨j, rfl⟩ := Int.eq_ofNat_of_zero_le h1
   have hj : j < r.2.length := by omega
   rw [decide_eq_true hlt] at hbb
   subst hbb
   rw [if_pos rfl, show r.2.getD (Int.toNat (j : Int)) 0 = r.2[j] by simp [hj]]
   go_enter Tryz.func17, Tryz.ntmps17
   go_wp2_with (first
    | (go_at_call 12; refine (R.out _ X.out.below).mono ?_; rintro e w1 ⟨⟨a, c, rfl, hr, hb⟩, hgw⟩; have GG := zSt ((G0.out.trans hgw).alloc (.cells #[.int .i64 r.1, .slice a r.2.length c] 41)); clear hgw; have X1 := zSt ((X.out.went hb).alloc (.cells #[.int .i64 r.1, .slice a r.2.length c] 41)); have y0 := X1.out.i0; have y1 := X1.out.i1; obtain ⟨g0, g1, g2, g3⟩ := X1.out.bx.box; obtain ⟨b2, o2, e2, z⟩ := hr j (by simpa [Gr.ivs] using hj); subst e2; have z := zAJ (o := .cells #[.int .i64 r.1, .slice (some ⟨b2, o2, none⟩) r.2.length c] 41) z; clear hb hr)
    | (go_at_call 43; refine (RR.out _ X1.out.below).mono ?_; rintro e w2 ⟨rfl, hgw⟩; have hb := hgw.below; have GH := zSt (GG.out.trans hgw); clear hgw; have X2 := zSt (X1.out.went hb); have z := cell_later hb z; have y0 := X2.out.i0; have y1 := X2.out.i1; have r0 := cell_later hb (zAA (w := w1) (cs := #[.int .i64 r.1, .slice (some ⟨b2, o2, none⟩) r.2.length c]) (T := 41) (n := w1.heap.size) (j := 1) rfl rfl); clear hb))
   go_ret2
   exact ⟨by simp [Gr.ivs, Gr.iv], GH.out⟩
  ·rw [decide_eq_false hlt] at hbb
   subst hbb
   have h3 : (r.2.length : Int) <= xd := by omega
   go_enter Tryz.func17, Tryz.ntmps17
   go_wp2_with (first
    | (go_at_call 12; refine (R.out _ X.out.below).mono ?_; rintro e w1 ⟨⟨a, c, rfl, hr, hb⟩, hgw⟩; have GG := zSt ((G0.out.trans hgw).alloc (.cells #[.int .i64 r.1, .slice a r.2.length c] 41)); clear hgw; have X1 := zSt ((X.out.went hb).alloc (.cells #[.int .i64 r.1, .slice a r.2.length c] 41)); have y0 := X1.out.i0; have y1 := X1.out.i1; obtain ⟨g0, g1, g2, g3⟩ := X1.out.bx.box; clear hb hr)
    | (go_at_call 43; refine (RR.out _ X1.out.below).mono ?_; rintro e w2 ⟨rfl, hgw⟩; have hb := hgw.below; have GH := zSt (GG.out.trans hgw); clear hgw; have X2 := zSt (X1.out.went hb); have y0 := X2.out.i0; have y1 := X2.out.i1; have r0 := cell_later hb (zAA (w := w1) (cs := #[.int .i64 r.1, .slice a r.2.length c]) (T := 41) (n := w1.heap.size) (j := 1) rfl rfl); clear hb))
   go_ret2
   exact ⟨rfl, GH.out⟩
