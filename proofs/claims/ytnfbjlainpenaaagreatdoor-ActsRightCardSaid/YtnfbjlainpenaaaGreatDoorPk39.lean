/- A part of the proof. -/
import Derived.Test.YtnfbjlainpenaaaGreatDoorPk38
set_option maxHeartbeats 8000000
set_option maxRecDepth 100000
set_option linter.unusedVariables false
set_option linter.unusedSimpArgs false
namespace Go.Proofs.YtnfbjlainpenaaaGreatDoor
namespace Lk
open Go.RowKit Go.Maps
open Gr (Gram Sh gv GAt Bx cell_later zAB boxed drawn step zAE zAU top checkN)
open Im
open Au
open Fi (VS canB fstB folB nlB ansC ansF ansB)
open Rw (Bk zAF)
theorem zKn : (Tryz.prog.info? 55).map (fun i => (i.zero, i.size, i.bytes)) = some (some (.slice none 0 0), 1, 24) := by kernel_rfl
theorem zIy : (Tryz.prog.info? 177).map (fun i => (i.zero, i.size, i.bytes)) = some (some (.slice none 0 0), 1, 24) := by kernel_rfl
theorem zIw : (Tryz.prog.info? 57).map (fun i => (i.zero, i.size, i.bytes)) = some (some (.agg #[.int .i64 0, .slice none 0 0]), 2, 32) := by kernel_rfl
theorem zI4 (n : Nat) (hn : n <= 10000) (w : World) :
  (Instr.makeSlice 33 (.int .i64 (n : Int)) (.int .i64 (n : Int))).run Tryz.prog w = .ok (.slice (some ⟨w.heap.size, 0, none⟩) n n) (w.alloc (.cells (madeCells #[.slice none 0 0] n) 55)) :=
 run_make_row' 33 55 (.slice none 0 0) 24 Tryz.underlying33 zKn rfl .i64 .i64 n (by omega) (by omega) w
theorem zOR (T : TypeId) (base q : Nat) (l : Int) (a : Option Addr) (n c : Nat) (w : World) (hq : q = w.heap.size) (hb : base <= q) : (w.alloc (.cells #[.int .i64 l, .slice a n c] T)).ownsRow base T 2 (.slice (some ⟨q, 0, none⟩) 1 1) 1 [.int .i64 l, .slice a n c] := by
 subst hq
 exact World.ownsRow_lit w #[.int .i64 l, .slice a n c] 1 hb (by decide) (by simp)
theorem zBv (T : TypeId) (base q : Nat) (v : Value) (w : World) (hq : q = w.heap.size) (hb : base <= q) : (w.alloc (.cells #[v] T)).ownsRow base T 1 (.slice (some ⟨q, 0, none⟩) 1 1) 1 [v] := by
 subst hq
 exact World.ownsRow_lit w #[v] 1 hb (by decide) (by simp)
theorem zOH {w w2 w4 : World} {p mb : Nat} {aS : Option Addr} {n cS : Nat} {G : Gram} (hY : Bk p #[.slice aS n cS, .int .i64 (G.terms.length : Int), .slice none 0 0, .slice none 0 0, .slice none 0 0, .slice none 0 0, .map (some mb), .slice none 0 0] 146 w2) (hb : Below w.heap.size w w2)
  (hb4 : Below ((w2.setCell ⟨p, 3, none⟩ (.slice (some ⟨w2.heap.size, 0, none⟩) (top G + 1) (top G + 1))).alloc (.cells (madeCells #[.slice none 0 0] (top G + 1)) 55)).heap.size ((w2.setCell ⟨p, 3, none⟩ (.slice (some ⟨w2.heap.size, 0, none⟩) (top G + 1) (top G + 1))).alloc (.cells (madeCells #[.slice none 0 0] (top G + 1)) 55)) w4) :
  Bk p (rb aS n cS G mb (rd0 w2.heap.size (top G + 1))) 146 w4 /\ Bk w2.heap.size (madeCells #[.slice none 0 0] (top G + 1)) 55 w4 /\ Sep.Fr (fun b => b = p) w2 w4 /\ Sep.Fr (fun b => b = p) w w4 /\ w2.heap.size < w4.heap.size := by
 have hs : (w2.setCell ⟨p, 3, none⟩ (.slice (some ⟨w2.heap.size, 0, none⟩) (top G + 1) (top G + 1))).heap.size = w2.heap.size := by simp [World.setCell]
 have h1 := hY.set (j := 3) (by simp) (.slice (some ⟨w2.heap.size, 0, none⟩) (top G + 1) (top G + 1))
 have h2 := (h1.went (boxed _ (.cells (madeCells #[.slice none 0 0] (top G + 1)) 55))).went hb4
 have h3 := (Bk.new (w2.setCell ⟨p, 3, none⟩ (.slice (some ⟨w2.heap.size, 0, none⟩) (top G + 1) (top G + 1))) (madeCells #[.slice none 0 0] (top G + 1)) 55 _ rfl).went hb4
 rw [hs] at h3
 have f2 : Sep.Fr (fun b => b = p) w2 w4 := (((Sep.Fr.refl (fun b => b = p) w2).setCell _ rfl _).alloc _).trans (Sep.Fr.of_below (S := fun b => b = p) hb4) fun _ hk => .inl hk
 have hz := hb4.size
 rw [show ((w2.setCell ⟨p, 3, none⟩ (.slice (some ⟨w2.heap.size, 0, none⟩) (top G + 1) (top G + 1))).alloc (.cells (madeCells #[.slice none 0 0] (top G + 1)) 55)).heap.size = w2.heap.size + 1 by simp [World.setCell]] at hz
 exact ⟨h2, h3, f2, (Sep.Fr.of_below (S := fun b => b = p) hb).trans f2 fun _ hk => .inl hk, by omega⟩
def zJd (G : Gram) (p mb : Nat) (aS : Option Addr) (n cS : Nat) (w : World) (e : Ending) (w' : World) : Prop :=
 e = .returned (.tuple #[]) /\ ∃ w4 D lab, RP w4 p mb G aS n cS (G.rules.length + 1) (G.rules.length + 1) (G.rules.length + 1) D lab w' /\ Sep.Fr (fun b => b = p) w w' /\ w.heap.size <= w4.heap.size /\ w.heap.size <= D.bB
def Md (w4 : World) (p mb : Nat) (G : Gram) (aS : Option Addr) (n cS jr jl jt bB xb s j : Nat) (ra : Option Addr) (rc : Nat) (wx : World) : Prop :=
 ∃ D lab, D.bB = bB /\ D.aR j = ra /\ RP w4 p mb G aS n cS jr jl jt D lab wx /\ lab xb = .no /\ xb < wx.heap.size /\ wx.cell? ⟨xb, 0, none⟩ = some (.int .i64 (s : Int)) /\ wx.cell? ⟨xb, 1, none⟩ = some (.slice ra (zAE G (j : Int)).2.length rc)
theorem zDj {Wi : World} (h : Sh) (G : Gram) (gi : GAt h G Wi) (w : World) (hbi : Below Wi.heap.size Wi w) (hv : checkN G = 0) (htab : Bt.Tab Wi) {p mb : Nat} {aS : Option Addr} {n cS : Nat} (hp : Wi.heap.size <= p) (hbox : Bk p #[.slice aS n cS, .int .i64 (G.terms.length : Int), .slice none 0 0, .slice none 0 0, .slice none 0 0, .slice none 0 0, .map (some mb), .slice none 0 0] 146 w) :
  Calls Tryz.prog 85 #[.pointer (some ⟨p, 0, none⟩), gv h G] w (zJd G p mb aS n cS w) := by
 have SM := Fi.zAo hv
 have hT := SM.t
 have hN := SM.n
 have hR := SM.r
 have htl : top G <= 240 := by
  have : top G = G.terms.length + G.nons.length := rfl
  omega
 have h0 : 0 < Wi.heap.size := htab.pos
 have X := zSg (Bx.start h G w 25)
 have TO := zSg (fun w1 (b : Below Wi.heap.size Wi w1) => Gr.zBb h G w1 (gi.went b))
 have OF := zSg (fun w1 (b : Below Wi.heap.size Wi w1) => Fi.zDS h G w1 (gi.went b))
 have RU := zSg (fun w1 (b : Below Wi.heap.size Wi w1) (i : Int) => Gr.zID h G i w1 (gi.went b))
 have BI := zSg hbi
 have hwn : IntKind.i64.wrap ((top G : Int) + 1) = (top G : Int) + 1 := IntWalk.i64_in _ (by omega)
 have hmk := fun w1 => zI4 (top G + 1) (by omega) w1
 rw [show ((top G + 1 : Nat) : Int) = (top G : Int) + 1 by omega] at hmk
 have hpw := hbox.lt
 have HX := zSg hbox
 have hbx : Below w.heap.size w (w.alloc (.cells #[.slice h.a1 G.terms.length h.c1, .slice h.a2 G.nons.length h.c2, .slice h.a3 G.rules.length h.c3, .int .i64 G.start] 25)) := boxed _ _
 have HBX := zSg hbx
 obtain ⟨xx0, xx1, xx2, xx3⟩ := X.out.box
 clear hbi
 unfold gv at *
 go_enter Tryz.func85, Tryz.ntmps85
 go_wp2_with (first
  | (go_at_call 102; (with_reducible refine (TO.out _ (BI.out.trans (HBX.out.mono BI.out.size))).mono ?_); rintro e w2 ⟨rfl, hb2⟩; have B2 := zSg (Gr.step HBX.out hb2); have Y2 := zSg (HX.out.went B2.out); have hp2 : p < w2.heap.size := Nat.lt_of_lt_of_le hpw B2.out.size; have z3 := Y2.out.cell (j := 3) rfl; have f3 := Y2.out.free 3; have s2 := B2.out.size; have s2' := hb2.size; have hws : w.heap.size < w2.heap.size := Nat.lt_of_lt_of_le (by simp) s2'; have u0 := cell_later hb2 xx0; have u1 := cell_later hb2 xx1; have u2 := cell_later hb2 xx2; have u3 := cell_later hb2 xx3; have hnp : w.heap.size ≠ p := (by omega); have hpn : p ≠ w.heap.size := (by omega); clear hb2)
  | (go_at_call 119; (with_reducible refine (OF.out _ ?_).mono ?_); (exact (BI.out.trans (B2.out.mono BI.out.size)).trans ((((Below.refl Wi.heap.size w2).setCell (by simpa using hp) _).alloc (by simp; have := BI.out.size; omega) _))); rintro e w4 ⟨vS, P, Dd, rfl, hVS, hTK, hb4⟩; have VS4 := zSg hVS; have TK4 := zSg hTK; obtain ⟨hP4, hL4, hF2, hF4, hs4⟩ := zOH Y2.out B2.out hb4; have P4 := zSg hP4; have L4 := zSg hL4; have F4 := zSg hF4; have v0 := hF2.cell u0 hnp; have v1 := hF2.cell u1 hnp; have v2 := hF2.cell u2 hnp; have v3 := hF2.cell u3 hnp; clear hVS hTK hb4 hP4 hL4 hF2 hF4)
  | fail)
 have hnl : nlB G = false := by unfold nlB; simp [hv]
 have TK := TK4.out hnl
 rw [hnl, show ansC G = canB G from if_pos hv, show ansF G = fstB G from if_pos hv, show ansB G = folB G from if_pos hv] at VS4
 rw [show ansC G = canB G from if_pos hv, show ansF G = fstB G from if_pos hv, show ansB G = folB G from if_pos hv] at TK
 have hBp : w2.heap.size ≠ p := by omega
 obtain ⟨lab0, hR0⟩ := RP.start P4.out L4.out hBp
 have R0 := zSg hR0
 have hsi := BI.out.size
 have VSF := zSg (fun w' (f : Sep.Fr (fun b => b = p \/ b = w2.heap.size) w4 w') => VS.fr VS4.out (Z := fun b => b = p \/ b = w2.heap.size) (by
  rintro b (rfl | rfl)
  ·exact ⟨_, _, _, P4.out.cell (j := 0) rfl⟩
  ·exact ⟨none, 0, 0, L4.out.cell (zFM _ 0 (by omega) _)⟩) f)
 have BIF := zSg (fun w' (f : Sep.Fr (fun b => b = p \/ b = w2.heap.size) w4 w') => (show Below Wi.heap.size Wi w' from
  (BI.out.trans (F4.out.below (fun k hk => hk ▸ hp) hsi)).trans (f.below (fun k hk => by rcases hk with e | e <;> omega) (by omega))))
 have GBX := zSg (fun w' (f : Sep.Fr (fun b => b = p \/ b = w2.heap.size) w4 w') => (show w'.cell? ⟨w.heap.size, 0, none⟩ = some (.slice h.a1 G.terms.length h.c1) /\ w'.cell? ⟨w.heap.size, 1, none⟩ = some (.slice h.a2 G.nons.length h.c2) /\ w'.cell? ⟨w.heap.size, 2, none⟩ = some (.slice h.a3 G.rules.length h.c3) /\ w'.cell? ⟨w.heap.size, 3, none⟩ = some (.int .i64 G.start) from
  have hn : ¬ (w.heap.size = p \/ w.heap.size = w2.heap.size) := by omega
  ⟨f.cell v0 hn, f.cell v1 hn, f.cell v2 hn, f.cell v3 hn⟩))
 obtain ⟨i0, hj, hz0, hz1, hz2⟩ := info_parts zIw
 obtain ⟨i1, hj1, hy0', hy1', hy2'⟩ := info_parts Bt.zBK
 obtain ⟨i2, hj2, hx0', hx1', hx2'⟩ := info_parts zIy
 clear hR0 hmk u0 u1 u2 u3 z3 f3 v0 v1 v2 v3 xx0 xx1 xx2 xx3 hbox hbx
 go_loopw [21] (fun t wr => ∃ (j : Nat) (D : Rd) (lab : Nat -> Lr), t = .int .i64 j /\ j <= G.rules.length + 1 /\ D.bB = w2.heap.size /\ RP w4 p mb G aS n cS j j j D lab wr) (fun t _ => G.rules.length + 1 - (intOf t).toNat)
 case atStart => exact ⟨0, rd0 w2.heap.size (top G + 1), lab0, rfl, Nat.zero_le _, rfl, R0.out⟩
 case round =>
  obtain ⟨j, D, lab, rfl, hjl, hDb, hRP⟩ := hrel
  have R := zSg hRP
  clear R0
  by_cases hlt : j < G.rules.length + 1
  ·have FRR := hRP.fr
   rw [hDb] at FRR
   obtain ⟨y0, y1, y2, y3⟩ := GBX.out wr FRR
   have hjr : j <= G.rules.length := by omega
   have hjb : j <= 300 := by omega
   have RC := zSg (RU.out wr (BIF.out wr FRR) (j : Int))
   have hl : ∃ s : Nat, (zAE G (j : Int)).1 = (s : Int) /\ s <= top G := by
    rcases zA3 hv hjr with ⟨_, e⟩ | ⟨_, e1, e2⟩
    ·exact ⟨0, by rw [e]; rfl, Nat.zero_le _⟩
    ·exact ⟨(zAE G (j : Int)).1.toNat, by omega, by omega⟩
   obtain ⟨s, hs, hst⟩ := hl
   have hlen := zBl hv (r := j) hjr
   unfold rlen at hlen
   clear hRP FRR
   go_wp2_with (go_at_call 58; (with_reducible refine (RC.out).mono ?_); rintro e w5 ⟨ra, rc, he5, hr5, hb5, hn5, hc5⟩; rw [hs] at he5; subst he5; have B5 := zSg hb5; have RR5 := zSg hr5; have NW5 := zSg hn5; clear hb5 hr5 hn5)
   have R5 := zSg (R.out.went B5.out)
   obtain ⟨lab1, hR1, hfx, hold⟩ := R5.out.relab (B := fun b => (zAE G (j : Int)).2 ≠ [] /\ ∃ o, ra = some ⟨b, o, none⟩) (fun b ⟨h1, o, h2⟩ => ⟨R.out.new_no (NW5.out _ h2), zOJ RR5.out h1 h2, Nat.le_trans R.out.fr.size (NW5.out _ h2)⟩)
   have bx6 : Below w5.heap.size w5 (w5.alloc (.cells #[.int .i64 (s : Int), .slice ra (zAE G (j : Int)).2.length rc] 57)) := boxed _ _
   have R6 := zSg (hR1.went bx6)
   have hxn : lab1 w5.heap.size = .no := hR1.new_no (Nat.le_refl _)
   have x0 : (w5.alloc (.cells #[.int .i64 (s : Int), .slice ra (zAE G (j : Int)).2.length rc] 57)).cell? ⟨w5.heap.size, 0, none⟩ = some (.int .i64 (s : Int)) := zAB rfl rfl
   have x1 : (w5.alloc (.cells #[.int .i64 (s : Int), .slice ra (zAE G (j : Int)).2.length rc] 57)).cell? ⟨w5.heap.size, 1, none⟩ = some (.slice ra (zAE G (j : Int)).2.length rc) := zAB rfl rfl
   have RA := zSg (RR5.out.below bx6 (Nat.le_refl _))
   have hxl : w5.heap.size < (w5.alloc (.cells #[.int .i64 (s : Int), .slice ra (zAE G (j : Int)).2.length rc] 57)).heap.size := by simp
   generalize w5.alloc (.cells #[.int .i64 (s : Int), .slice ra (zAE G (j : Int)).2.length rc] 57) = w6 at *
   generalize w5.heap.size = xb at *
   have hdb : D.bB = w2.heap.size := hDb
   go_cut [] (fun wx => Md w4 p mb G aS n cS (j + 1) j j w2.heap.size xb s j ra rc wx)
   case first =>
    have hp6 := R6.out.lab_lt R6.out.lp (by intro e; cases e)
    obtain ⟨av, cv, erv⟩ := Rw.zAG R6.out.rrow
    have q2 := R6.out.box.cell (j := 2) (v := D.rv) rfl
    have hs46 := R6.out.fr.size
    have bl : Below w6.heap.size w6 (w6.alloc (.cells #[.int .i64 (s : Int), .slice ra (zAE G (j : Int)).2.length rc] 57)).drew := (boxed _ _).drew
    have RX := zSg (Sep.zAD R6.out.rrow fun g hg => bl.block g (R6.out.rrow.lt g hg).2)
    have ON := zSg (show (w6.alloc (.cells #[.int .i64 (s : Int), .slice ra (zAE G (j : Int)).2.length rc] 57)).drew.ownsRow _ _ _ _ _ _ from zOR 57 w4.heap.size w6.heap.size (s : Int) ra (zAE G (j : Int)).2.length rc w6 rfl hs46)
    have hszl : w4.heap.size <= (w6.alloc (.cells #[.int .i64 (s : Int), .slice ra (zAE G (j : Int)).2.length rc] 57)).drew.heap.size := Nat.le_trans hs46 bl.size
    have LC := zSg (fun (w7 : World) (hg : (w6.alloc (.cells #[.int .i64 (s : Int), .slice ra (zAE G (j : Int)).2.length rc] 57)).drew.grownBy w7 D.rv.ownBlock) => R6.out.rule_box bl hg)
    have FN := zSg (fun (w7 : World) (v' : Value) hown (hg : (w6.alloc (.cells #[.int .i64 (s : Int), .slice ra (zAE G (j : Int)).2.length rc] 57)).drew.grownBy w7 D.rv.ownBlock) hvv => R6.out.rule RA.out (fun hne b o e => hfx b ⟨hne, o, e⟩) bl (c := rc) (w2 := w7) (v' := v') hown hg hvv)
    rw [hs] at FN
    rw [erv] at q2 RX LC FN
    have hro : ∀ D' : Rd, D' = D -> ((List.range j).flatMap (rcs G D')) = ((List.range j).flatMap (rcs G D)) := fun _ e => by rw [e]
    generalize hrow : ((List.range j).flatMap (rcs G D)) = row at *
    clear bl bx6
    go_region_law (first
     | (refine zAF _ (by rfl) _ _ 23 (by rfl) w4.heap.size 57 i0 (.agg #[.int .i64 0, .slice none 0 0]) 2 32 Tryz.underlying23 hj hz0 hz1 hz2 rfl (by decide) (.slice av j cv) j row (by rfl) RX.out w4.heap.size (.slice (some ⟨w6.heap.size, 0, none⟩) 1 1) 1 [.int .i64 (s : Int), .slice ra (zAE G (j : Int)).2.length rc] (by rfl) ON.out (by simp [Value.oneCell']) (by unfold maxLen; omega) (by omega) hszl ?_; intro v7 w7 hown7 hg7 hloc7; obtain ⟨a7, c7, rfl⟩ := Rw.zAG hown7; obtain ⟨q9, f9⟩ := LC.out w7 hg7; have R7 := zSg (FN.out w7 _ hown7 hg7 hloc7); clear hown7 hg7 hloc7))
    all_goals
     go_wp2_with fail
     go_meet
     case rel =>
      obtain ⟨lab2, hR7, hag7, hFr7⟩ := R7.out
      exact ⟨{ D with rv := .slice a7 (j + 1) c7, aR := upd D.aR j ra, cR := upd D.cR j rc }, lab2, hdb, upd_same .., hR7, (hag7 xb hxl).trans hxn, Nat.lt_of_lt_of_le hxl hFr7.size, hFr7.cell x0 (by rw [hxn]; exact fun e => e rfl), hFr7.cell x1 (by rw [hxn]; exact fun e => e rfl)⟩
   case rest =>
    obtain ⟨D2, lab2, hD2, hra2, hR8, hxn8, hxl8, x08, x18⟩ := hcut
    have R8 := zSg hR8
    clear hR8 R R5 R6 RA hfx hold hR1 x0 x1 hxl hxn RR5 NW5 B5
    have hp8 := R8.out.lab_lt R8.out.lp (by intro e; cases e)
    have hb8 := R8.out.lab_lt R8.out.lb (by intro e; cases e)
    have q3 := R8.out.box.cell (j := 3) (v := .slice (some ⟨D2.bB, 0, none⟩) (top G + 1) D2.cB) rfl
    have l3 := R8.out.lcell s hst
    obtain ⟨al, cl, elv⟩ := Rw.zAG (R8.out.lrow s hst)
    have hs48 := R8.out.fr.size
    have hbl := zHe G (s : Int) j
    have bl : Below wc.heap.size wc (wc.alloc (.cells #[.int .i64 (j : Int)] 3)).drew := (boxed _ _).drew
    have RX := zSg (Sep.zAD (R8.out.lrow s hst) fun g hg => bl.block g ((R8.out.lrow s hst).lt g hg).2)
    have ON := zSg (show (wc.alloc (.cells #[.int .i64 (j : Int)] 3)).drew.ownsRow _ _ _ _ _ _ from zBv 3 w4.heap.size wc.heap.size (.int .i64 (j : Int)) wc rfl hs48)
    have hszl : w4.heap.size <= (wc.alloc (.cells #[.int .i64 (j : Int)] 3)).drew.heap.size := Nat.le_trans hs48 bl.size
    have LC := zSg (fun (w7 : World) (hg : (wc.alloc (.cells #[.int .i64 (j : Int)] 3)).drew.grownBy w7 (D2.LV s).ownBlock) => R8.out.left_cell hst bl hg)
    have XC := zSg (fun (w7 : World) (hg : (wc.alloc (.cells #[.int .i64 (j : Int)] 3)).drew.grownBy w7 (D2.LV s).ownBlock) => (show w7.cell? ⟨xb, 0, none⟩ = some (.int .i64 (s : Int)) /\ w7.cell? ⟨p, 3, none⟩ = some (.slice (some ⟨D2.bB, 0, none⟩) (top G + 1) D2.cB) from by
     have k : ∀ b, b < wc.heap.size -> lab2 b ≠ .lft s -> w7.heap[b]? = wc.heap[b]? := fun b hb hn => (hg.block b (Nat.lt_of_lt_of_le hb bl.size) fun e => hn (R8.out.ll s hst b e.symm)).trans (bl.block b hb)
     exact ⟨(World.cell?_of_block (a := ⟨xb, 0, none⟩) (k xb hxl8 (by rw [hxn8]; intro e; cases e))).trans x08, (World.cell?_of_block (a := ⟨p, 3, none⟩) (k p hp8 (by rw [R8.out.lp]; intro e; cases e))).trans q3⟩))
    have FN := zSg (fun (w7 : World) (v' : Value) hown (hg : (wc.alloc (.cells #[.int .i64 (j : Int)] 3)).drew.grownBy w7 (D2.LV s).ownBlock) hvv => R8.out.left hst hs bl (w2 := w7) (v' := v') hown hg hvv)
    rw [elv] at l3 RX LC FN XC
    rw [hD2] at q3 l3 LC FN hb8 XC
    have hsi1 : (s : Int) < (top G : Int) + 1 := by omega
    have hsi2 : s < top G + 1 := by omega
    generalize hll : (byTo G (s : Int) j).length = ll at *
    go_wp2_with fail
    go_cut [] (fun wx => Md w4 p mb G aS n cS (j + 1) (j + 1) j w2.heap.size xb s j ra rc wx)
    case first =>
     have hxB : w2.heap.size ≠ xb := fun e => by have h1 := R8.out.lb; rw [hD2, e, hxn8] at h1; cases h1
     have hxB2 : ¬ w2.heap.size = xb := hxB
     have hpB2 : ¬ w2.heap.size = p := hBp
     refine wp_region_held_drew (S := fun w' => w'.cell? ⟨p, 3, none⟩ = some (.slice (some ⟨w2.heap.size, 0, none⟩) (top G + 1) D2.cB) /\ w'.cell? ⟨xb, 0, none⟩ = some (.int .i64 (s : Int))) (by kernel_rfl) ⟨by simp [q3], by simp [x08]⟩ (fun hHeld => ?_)
     refine wpAnyH_take (i := 0) (oi := _) (v := .pointer (some ⟨p, 0, none⟩)) rfl (by kernel_rfl) (by kernel_rfl) (by kernel_rfl) (fun _ _ _ h => h) (Or.inl ⟨by rfl, fun w5 hs5 => by obtain ⟨s0, s1⟩ := hs5; go_simp⟩) (by assumption) ?_
     change wpAnyH _ _ _ _ _ _ _ (Act.put _ (some 40) _) _
     simp only [Act.put, List.setIfInBounds_toArray, List.set_cons_zero, List.set_cons_succ]
     refine wpAnyH_take (i := 1) (oi := _) (v := .pointer (some ⟨p, 0, none⟩)) rfl (by kernel_rfl) (by kernel_rfl) (by kernel_rfl) (fun _ _ _ h => h) (Or.inl ⟨by rfl, fun w5 hs5 => by obtain ⟨s0, s1⟩ := hs5; go_simp⟩) (by assumption) ?_
     change wpAnyH _ _ _ _ _ _ _ (Act.put _ (some 41) _) _
     simp only [Act.put, List.setIfInBounds_toArray, List.set_cons_zero, List.set_cons_succ]
     refine wpAnyH_take (i := 2) (oi := _) (v := .pointer (some ⟨p, 3, none⟩)) rfl (by kernel_rfl) (by kernel_rfl) (by kernel_rfl) (fun _ _ _ h => h) (Or.inl ⟨by rfl, fun w5 hs5 => by obtain ⟨s0, s1⟩ := hs5; go_simp⟩) (by assumption) ?_
     change wpAnyH _ _ _ _ _ _ _ (Act.put _ (some 42) _) _
     simp only [Act.put, List.setIfInBounds_toArray, List.set_cons_zero, List.set_cons_succ]
     refine wpAnyH_take (i := 3) (oi := _) (v := .slice (some ⟨w2.heap.size, 0, none⟩) (top G + 1) D2.cB) rfl (by kernel_rfl) (by kernel_rfl) (by kernel_rfl) (fun _ _ _ h => h) (Or.inl ⟨by rfl, fun w5 hs5 => by obtain ⟨s0, s1⟩ := hs5; go_simp⟩) (by assumption) ?_
     change wpAnyH _ _ _ _ _ _ _ (Act.put _ (some 43) _) _
     simp only [Act.put, List.setIfInBounds_toArray, List.set_cons_zero, List.set_cons_succ]
     refine wpAnyH_take (i := 4) (oi := _) (v := .pointer (some ⟨xb, 0, none⟩)) rfl (by kernel_rfl) (by kernel_rfl) (by kernel_rfl) (fun _ _ _ h => h) (Or.inl ⟨by rfl, fun w5 hs5 => by obtain ⟨s0, s1⟩ := hs5; go_simp⟩) (by assumption) ?_
     change wpAnyH _ _ _ _ _ _ _ (Act.put _ (some 44) _) _
     simp only [Act.put, List.setIfInBounds_toArray, List.set_cons_zero, List.set_cons_succ]
     refine wpAnyH_take (i := 5) (oi := _) (v := .int .i64 (s : Int)) rfl (by kernel_rfl) (by kernel_rfl) (by kernel_rfl) (fun _ _ _ h => h) (Or.inl ⟨by rfl, fun w5 hs5 => by obtain ⟨s0, s1⟩ := hs5; go_simp⟩) (by assumption) ?_
     change wpAnyH _ _ _ _ _ _ _ (Act.put _ (some 45) _) _
     simp only [Act.put, List.setIfInBounds_toArray, List.set_cons_zero, List.set_cons_succ]
     refine wpAnyH_take (i := 6) (oi := _) (v := .pointer (some ⟨p, 0, none⟩)) rfl (by kernel_rfl) (by kernel_rfl) (by kernel_rfl) (fun _ _ _ h => h) (Or.inl ⟨by rfl, fun w5 hs5 => by obtain ⟨s0, s1⟩ := hs5; go_simp⟩) (by assumption) ?_
     change wpAnyH _ _ _ _ _ _ _ (Act.put _ (some 46) _) _
     simp only [Act.put, List.setIfInBounds_toArray, List.set_cons_zero, List.set_cons_succ]
     refine wpAnyH_take (i := 7) (oi := _) (v := .pointer (some ⟨p, 0, none⟩)) rfl (by kernel_rfl) (by kernel_rfl) (by kernel_rfl) (fun _ _ _ h => h) (Or.inl ⟨by rfl, fun w5 hs5 => by obtain ⟨s0, s1⟩ := hs5; go_simp⟩) (by assumption) ?_
     change wpAnyH _ _ _ _ _ _ _ (Act.put _ (some 47) _) _
     simp only [Act.put, List.setIfInBounds_toArray, List.set_cons_zero, List.set_cons_succ]
     refine wpAnyH_take (i := 8) (oi := _) (v := .pointer (some ⟨p, 3, none⟩)) rfl (by kernel_rfl) (by kernel_rfl) (by kernel_rfl) (fun _ _ _ h => h) (Or.inl ⟨by rfl, fun w5 hs5 => by obtain ⟨s0, s1⟩ := hs5; go_simp⟩) (by assumption) ?_
     change wpAnyH _ _ _ _ _ _ _ (Act.put _ (some 48) _) _
     simp only [Act.put, List.setIfInBounds_toArray, List.set_cons_zero, List.set_cons_succ]
     refine wpAnyH_take (i := 9) (oi := _) (v := .slice (some ⟨w2.heap.size, 0, none⟩) (top G + 1) D2.cB) rfl (by kernel_rfl) (by kernel_rfl) (by kernel_rfl) (fun _ _ _ h => h) (Or.inl ⟨by rfl, fun w5 hs5 => by obtain ⟨s0, s1⟩ := hs5; go_simp⟩) (by assumption) ?_
     change wpAnyH _ _ _ _ _ _ _ (Act.put _ (some 49) _) _
     simp only [Act.put, List.setIfInBounds_toArray, List.set_cons_zero, List.set_cons_succ]
     refine wpAnyH_take (i := 10) (oi := _) (v := .pointer (some ⟨xb, 0, none⟩)) rfl (by kernel_rfl) (by kernel_rfl) (by kernel_rfl) (fun _ _ _ h => h) (Or.inl ⟨by rfl, fun w5 hs5 => by obtain ⟨s0, s1⟩ := hs5; go_simp⟩) (by assumption) ?_
     change wpAnyH _ _ _ _ _ _ _ (Act.put _ (some 50) _) _
     simp only [Act.put, List.setIfInBounds_toArray, List.set_cons_zero, List.set_cons_succ]
     refine wpAnyH_take (i := 11) (oi := _) (v := .int .i64 (s : Int)) rfl (by kernel_rfl) (by kernel_rfl) (by kernel_rfl) (fun _ _ _ h => h) (Or.inl ⟨by rfl, fun w5 hs5 => by obtain ⟨s0, s1⟩ := hs5; go_simp⟩) (by assumption) ?_
     change wpAnyH _ _ _ _ _ _ _ (Act.put _ (some 51) _) _
     simp only [Act.put, List.setIfInBounds_toArray, List.set_cons_zero, List.set_cons_succ]
     refine wpAnyH_take (i := 12) (oi := _) (v := .pointer (some ⟨w2.heap.size, s, none⟩)) rfl (by kernel_rfl) (by kernel_rfl) (by kernel_rfl) (fun _ _ _ h => h) (Or.inl ⟨by rfl, fun w5 hs5 => by obtain ⟨s0, s1⟩ := hs5; go_simp⟩) (by assumption) ?_
     change wpAnyH _ _ _ _ _ _ _ (Act.put _ (some 52) _) _
     simp only [Act.put, List.setIfInBounds_toArray, List.set_cons_zero, List.set_cons_succ]
     refine wpAnyH_take (i := 14) (oi := _) (v := .int .i64 (j : Int)) rfl (by kernel_rfl) (by kernel_rfl) (by kernel_rfl) (fun _ _ _ h => h) (Or.inl ⟨by rfl, fun w5 hs5 => by obtain ⟨s0, s1⟩ := hs5; go_simp⟩) (by assumption) ?_
     change wpAnyH _ _ _ _ _ _ _ (Act.put _ (some 54) _) _
     simp only [Act.put, List.setIfInBounds_toArray, List.set_cons_zero, List.set_cons_succ]
     refine wpAnyH_ready (rs := [13, 15]) (by kernel_rfl) (by simp) ?_
     refine AllReadyH.cons (o := _) rfl (fun K' hK' => ?_) (AllReadyH.cons (o := _) rfl (fun K' hK' => ?_) AllReadyH.nil)
     ·go_simp
      refine hK'.out _ _ ⟨by simp [q3], by simp [x08]⟩ (fun hHeld => ?_)
      clear hK'
      refine wpAnyH_ready (rs := [15]) (by kernel_rfl) (by simp) ?_
      refine AllReadyH.cons (o := _) rfl (fun K' hK' => ?_) AllReadyH.nil
      go_simp
      refine hK'.out _ _ ⟨by simp [q3, World.cell?_alloc_some], by simp [x08, World.cell?_alloc_some]⟩ (fun hHeld => ?_)
      clear hK'
      refine wpAnyH_ready (rs := [16]) (by kernel_rfl) (by simp) ?_
      refine AllReadyH.cons (o := _) rfl (fun K' hK' => ?_) AllReadyH.nil
      refine zAF _ (by rfl) _ _ 55 (by rfl) w4.heap.size 3 i1 (.int .i64 0) 1 8 Tryz.underlying55 hj1 hy0' hy1' hy2' rfl (by decide) (.slice al ll cl) ll (nivs (byTo G (s : Int) j)) (by rfl) RX.out w4.heap.size (.slice (some ⟨wc.heap.size, 0, none⟩) 1 1) 1 [.int .i64 (j : Int)] (by rfl) ON.out (by simp [Value.oneCell']) (by unfold maxLen; omega) (by omega) hszl ?_
      intro v7 w7 hown7 hg7 hloc7; obtain ⟨a7, c7, rfl⟩ := Rw.zAG hown7; obtain ⟨q9, f9⟩ := LC.out w7 hg7; obtain ⟨q10, q11⟩ := XC.out w7 hg7; have R7 := zSg (FN.out w7 _ hown7 hg7 hloc7); clear hown7 hg7 hloc7 hHeld
      refine hK'.out _ _ ⟨q11, q10⟩ (fun hHeld => ?_)
      clear hK'
      simp only [Act.put, List.setIfInBounds_toArray, List.set_cons_zero, List.set_cons_succ]
      refine wpAnyH_take (i := 17) (oi := _) (v := .pointer (some ⟨w2.heap.size, s, none⟩)) rfl (by kernel_rfl) (by kernel_rfl) (by kernel_rfl) (fun _ _ _ h => h) (Or.inl ⟨by rfl, fun w5 hs5 => by obtain ⟨s0, s1⟩ := hs5; go_simp⟩) (by assumption) ?_
      change wpAnyH _ _ _ _ _ _ _ (Act.put _ (some 57) _) _
      simp only [Act.put, List.setIfInBounds_toArray, List.set_cons_zero, List.set_cons_succ]
      refine wpAnyH_ready (rs := [18]) (by kernel_rfl) (by simp) ?_
      refine AllReadyH.cons (o := _) rfl (fun K' hK' => ?_) AllReadyH.nil
      go_simp
      refine hK'.out _ _ ⟨by simp [q11, World.cell?_setCell_far, hpB2], by simp [q10, World.cell?_setCell_far, hxB2]⟩ (fun hHeld => ?_)
      clear hK' hHeld
      refine wpAnyH_done (by kernel_rfl) ?_ _
      go_wp2_with fail
      go_meet
      case rel =>
       obtain ⟨lab3, hR7, hag7, hFr7⟩ := R7.out
       exact ⟨{ D2 with bB := w2.heap.size, LV := upd D2.LV s (.slice a7 (ll + 1) c7) }, lab3, rfl, hra2, hR7, (hag7 xb hxl8).trans hxn8, Nat.lt_of_lt_of_le hxl8 hFr7.size, hFr7.cell x08 (by rw [hxn8]; exact fun e => e rfl), hFr7.cell x18 (by rw [hxn8]; exact fun e => e rfl)⟩
     ·go_simp
      refine hK'.out _ _ ⟨by simp [q3, World.cell?_alloc_some], by simp [x08, World.cell?_alloc_some]⟩ (fun hHeld => ?_)
      clear hK'
      refine wpAnyH_ready (rs := [13]) (by kernel_rfl) (by simp) ?_
      refine AllReadyH.cons (o := _) rfl (fun K' hK' => ?_) AllReadyH.nil
      go_simp
      refine hK'.out _ _ ⟨by simp [q3, World.cell?_alloc_some], by simp [x08, World.cell?_alloc_some]⟩ (fun hHeld => ?_)
      clear hK'
      refine wpAnyH_ready (rs := [16]) (by kernel_rfl) (by simp) ?_
      refine AllReadyH.cons (o := _) rfl (fun K' hK' => ?_) AllReadyH.nil
      refine zAF _ (by rfl) _ _ 55 (by rfl) w4.heap.size 3 i1 (.int .i64 0) 1 8 Tryz.underlying55 hj1 hy0' hy1' hy2' rfl (by decide) (.slice al ll cl) ll (nivs (byTo G (s : Int) j)) (by rfl) RX.out w4.heap.size (.slice (some ⟨wc.heap.size, 0, none⟩) 1 1) 1 [.int .i64 (j : Int)] (by rfl) ON.out (by simp [Value.oneCell']) (by unfold maxLen; omega) (by omega) hszl ?_
      intro v7 w7 hown7 hg7 hloc7; obtain ⟨a7, c7, rfl⟩ := Rw.zAG hown7; obtain ⟨q9, f9⟩ := LC.out w7 hg7; obtain ⟨q10, q11⟩ := XC.out w7 hg7; have R7 := zSg (FN.out w7 _ hown7 hg7 hloc7); clear hown7 hg7 hloc7 hHeld
      refine hK'.out _ _ ⟨q11, q10⟩ (fun hHeld => ?_)
      clear hK'
      simp only [Act.put, List.setIfInBounds_toArray, List.set_cons_zero, List.set_cons_succ]
      refine wpAnyH_take (i := 17) (oi := _) (v := .pointer (some ⟨w2.heap.size, s, none⟩)) rfl (by kernel_rfl) (by kernel_rfl) (by kernel_rfl) (fun _ _ _ h => h) (Or.inl ⟨by rfl, fun w5 hs5 => by obtain ⟨s0, s1⟩ := hs5; go_simp⟩) (by assumption) ?_
      change wpAnyH _ _ _ _ _ _ _ (Act.put _ (some 57) _) _
      simp only [Act.put, List.setIfInBounds_toArray, List.set_cons_zero, List.set_cons_succ]
      refine wpAnyH_ready (rs := [18]) (by kernel_rfl) (by simp) ?_
      refine AllReadyH.cons (o := _) rfl (fun K' hK' => ?_) AllReadyH.nil
      go_simp
      refine hK'.out _ _ ⟨by simp [q11, World.cell?_setCell_far, hpB2], by simp [q10, World.cell?_setCell_far, hxB2]⟩ (fun hHeld => ?_)
      clear hK' hHeld
      refine wpAnyH_done (by kernel_rfl) ?_ _
      go_wp2_with fail
      go_meet
      case rel =>
       obtain ⟨lab3, hR7, hag7, hFr7⟩ := R7.out
       exact ⟨{ D2 with bB := w2.heap.size, LV := upd D2.LV s (.slice a7 (ll + 1) c7) }, lab3, rfl, hra2, hR7, (hag7 xb hxl8).trans hxn8, Nat.lt_of_lt_of_le hxl8 hFr7.size, hFr7.cell x08 (by rw [hxn8]; exact fun e => e rfl), hFr7.cell x18 (by rw [hxn8]; exact fun e => e rfl)⟩
    case rest =>
     obtain ⟨D3, lab3, hD3, hra3, hR9, hxn9, hxl9, x09, x19⟩ := hcut
     have R9 := zSg hR9
     clear hR9 R8 FN LC RX ON
     have hp9 := R9.out.lab_lt R9.out.lp (by intro e; cases e)
     obtain ⟨at9, ct9, etv⟩ := Rw.zAG R9.out.trow
     have q4 := R9.out.box.cell (j := 4) (v := D3.tv) rfl
     have hs49 := R9.out.fr.size
     have fr9 : Sep.Fr (fun b => b = p \/ b = w2.heap.size) w4 wc.drew := by
      have := R9.out.fr.drew
      rw [hD3] at this
      exact this
     have RA9 := R9.out.rights j (by omega)
     rw [hra3] at RA9
     have hsyms : ∀ x ∈ (zAE G (j : Int)).2, x <= 9223372036854775807 := fun x hx => by
      obtain ⟨d, hd, rfl⟩ := List.getElem_of_mem hx
      have hrb : Gr.zAU G (j : Int) = true := by unfold Gr.zAU; exact decide_eq_true ⟨by omega, by omega⟩
      have := (zBB hv hrb hd).2
      omega
     have TC := zSg (zHQ (p := p) wc.drew (VSF.out _ fr9) TK (htab.below (BIF.out _ fr9) h0) (by show 0 < wc.heap.size; omega) (by omega) (R9.out.box.cell (j := 1) rfl) (zAE G (j : Int)).2 ra rc RA9 (by omega) hc5 hsyms)
     have TF := zSg (fun (w10 : World) (tP tD : Nat -> Nat) (a10 : Option Addr) (c10 : Nat) (ht : TlV G (zAE G (j : Int)).2 wc.heap.size tP tD (zAE G (j : Int)).2.length (.slice a10 (zAE G (j : Int)).2.length c10) w10) (hb : Below wc.heap.size wc w10) =>
      (show (∀ w11, (w10.alloc (.cells #[.slice a10 (zAE G (j : Int)).2.length c10] 177)).grownBy w11 (Value.slice at9 j ct9).ownBlock -> w11.cell? ⟨p, 4, none⟩ = some (.slice at9 j ct9) /\ w11.frozen? ⟨p, 4, none⟩ = false) /\
       (w10.alloc (.cells #[.slice a10 (zAE G (j : Int)).2.length c10] 177)).ownsRow w4.heap.size 177 1 (.slice at9 j ct9) j ((List.range j).map D3.TV) /\
       ∀ w11 v', w11.ownsRow w4.heap.size 177 1 v' (j + 1) ((List.range j).map D3.TV ++ [.slice a10 (zAE G (j : Int)).2.length c10]) -> (w10.alloc (.cells #[.slice a10 (zAE G (j : Int)).2.length c10] 177)).grownBy w11 (Value.slice at9 j ct9).ownBlock -> (v'.ownBlock = (Value.slice at9 j ct9).ownBlock \/ v'.ownBlock = some (w10.alloc (.cells #[.slice a10 (zAE G (j : Int)).2.length c10] 177)).heap.size) ->
        ∃ D' lab', D'.bB = w2.heap.size /\ RP w4 p mb G aS n cS (j + 1) (j + 1) (j + 1) D' lab' (w11.setCell ⟨p, 4, none⟩ v') from by
       have R10 := R9.out.went hb
       obtain ⟨lab4, hR10, hfx4, _⟩ := R10.relab (B := fun b => (Value.slice a10 (zAE G (j : Int)).2.length c10).ownBlock = some b \/ ∃ d, d < (zAE G (j : Int)).2.length /\ (b = tP d \/ b = tD d)) (by
        rintro b (e | ⟨d, hd, e | e⟩)
        ·have := ht.row.lt b e
         exact ⟨R9.out.new_no this.1, this.2, Nat.le_trans hs49 this.1⟩
        ·rw [e]
         have h1 := (ht.low d hd).1
         exact ⟨R9.out.new_no h1, (ht.sets d hd).inp, Nat.le_trans hs49 h1⟩
        ·rw [e]
         have h1 := (ht.low d hd).2
         exact ⟨R9.out.new_no h1, (ht.sets d hd).ind, Nat.le_trans hs49 h1⟩)
       have bl := boxed w10 (.cells #[.slice a10 (zAE G (j : Int)).2.length c10] 177)
       have ht4 : TlV G (zAE G (j : Int)).2 w4.heap.size tP tD (zAE G (j : Int)).2.length (.slice a10 (zAE G (j : Int)).2.length c10) w10 := ⟨Rw.zAy ht.row hs49, ht.sets, fun d hd => ⟨Nat.le_trans hs49 (ht.low d hd).1, Nat.le_trans hs49 (ht.low d hd).2⟩, ht.off⟩
       refine ⟨fun w11 hg => ?_, ?_, fun w11 v' hown hg hvv => ?_⟩
       ·have := hR10.tail_box bl (w2 := w11) (by rw [etv]; exact hg)
        rw [etv] at this
        exact this
       ·have := Sep.zAD hR10.trow fun g hg => bl.block g (hR10.trow.lt g hg).2
        rw [etv] at this
        exact this
       ·obtain ⟨lab5, h5, _, _⟩ := hR10.tail ht4 (fun g e => hfx4 g (.inl e)) (fun d hd => ⟨hfx4 _ (.inr ⟨d, hd, .inl rfl⟩), hfx4 _ (.inr ⟨d, hd, .inr rfl⟩)⟩) bl (w2 := w11) (v' := v') hown (by rw [etv]; exact hg) (by rw [etv]; exact hvv)
        exact ⟨{ D3 with tv := v', TV := upd D3.TV j (.slice a10 (zAE G (j : Int)).2.length c10), tP := upd D3.tP j tP, tD := upd D3.tD j tD }, lab5, hD3, h5⟩))
     have kA := drawn wc
     rw [etv] at q4
     generalize hTVr : ((List.range j).map D3.TV) = tr at *
     generalize hlr : (zAE G (j : Int)).2.length = lr at *
     clear RA9 fr9
     go_wp2_with fail
     go_region_law (first
      | (go_simp; go_at_call 120; (with_reducible refine (TC.out).mono ?_); rintro e w10 ⟨tP, tD, a10, c10, he10, ht10, hb10⟩; rw [hlr] at he10 ht10; subst he10; have hb10' : Below wc.heap.size wc w10 := Gr.step kA hb10; obtain ⟨hA, hB', hC⟩ := TF.out w10 tP tD a10 c10 ht10 hb10'; have LA := zSg hA; have LB := zSg hB'; have LCC := zSg hC; have q410 := cell_later hb10' q4; have hp10 : p < w10.heap.size := Nat.lt_of_lt_of_le hp9 hb10'.size; have hsz10 : w4.heap.size <= (w10.alloc (.cells #[.slice a10 lr c10] 177)).heap.size := Nat.le_trans hs49 (Nat.le_trans hb10'.size (by simp)); have ON10 := zSg (zBv 177 w4.heap.size w10.heap.size (.slice a10 lr c10) w10 rfl (Nat.le_trans hs49 hb10'.size)); clear ht10 hb10 hA hB' hC)
      | (refine zAF _ (by rfl) _ _ 143 (by rfl) w4.heap.size 177 i2 (.slice none 0 0) 1 24 Tryz.underlying143 hj2 hx0' hx1' hx2' rfl (by decide) (.slice at9 j ct9) j tr (by rfl) LB.out w4.heap.size (.slice (some ⟨w10.heap.size, 0, none⟩) 1 1) 1 [.slice a10 lr c10] (by rfl) ON10.out (by simp [Value.oneCell']) (by unfold maxLen; omega) (by omega) hsz10 ?_; intro v7 w7 hown7 hg7 hloc7; obtain ⟨a7, c7, rfl⟩ := Rw.zAG hown7; obtain ⟨q9, f9⟩ := LA.out w7 hg7; have R7 := zSg (LCC.out w7 _ hown7 hg7 hloc7); clear hown7 hg7 hloc7))
     all_goals
      go_wp2_with fail
      obtain ⟨D5, lab5, hD5, hR5⟩ := R7.out
      go_roundw
      case rel => exact ⟨j + 1, D5, lab5, by go_num, by omega, hD5, hR5⟩
      case measure => simp [intOf]; omega
  ·have hE : j = G.rules.length + 1 := by omega
   subst hE
   have hbs : w.heap.size <= D.bB := by rw [hDb]; exact s2
   have hfr : Sep.Fr (fun b => b = p) w wr := F4.out.trans R.out.fr fun b hb => by
    rcases hb with e | e
    ·exact .inl e
    ·exact .inr (by rw [e]; exact hbs)
   have h44 : w.heap.size <= w4.heap.size := by omega
   clear hRP
   go_wp2
   try simp only [Exit.inBlock, Exit.then]
   refine bodyPost_ret (v := .tuple #[]) (by simp [results, Tryz.results85, go_sem]) rfl ?_
   exact ⟨rfl, w4, D, lab, R.out, hfr, h44, hbs⟩
