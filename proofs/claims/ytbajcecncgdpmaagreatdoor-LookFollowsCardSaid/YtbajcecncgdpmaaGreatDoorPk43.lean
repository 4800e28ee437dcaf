/- A part of the proof. -/
import Derived.Test.YtbajcecncgdpmaaGreatDoorPk39
set_option maxHeartbeats 4000000
set_option maxRecDepth 100000
set_option linter.unusedVariables false
namespace Go.Proofs.YtbajcecncgdpmaaGreatDoor
open Go.RowKit Go.Maps
namespace Au
open Gr (Gram Sh gv GAt checkN top zBe zC3 zAB zAN boxed drawn zAA cell_later)
open Im
open Rw (zAI)
theorem zMN {W : World} {p : Nat} {S : Nat -> Prop} {h : Sh} {G : Gram} {ks : List (List Itm)} {X : Itm -> Option Int} {n : Nat} (w : World) (k : BAt W p S h G ks X n w) (kg : GAt h G W) (hv : checkN G = 0) (ht : top G <= 1000)
  (hks : ∀ x ∈ ks, x.length <= 2709 /\ ∀ y ∈ x, zAG G y = true) (hkl : ks.length <= 1000000) (i : Nat) (hi : i < ks.length) :
  Calls Tryz.prog 78 #[.pointer (some ⟨p, 0, none⟩), .int .i64 i] w (zMo (fun s => stL G (clL G ks[i]) (s : Int)) (top G + 1) w) := by
 obtain ⟨a0, c0, bt, bn, us, k⟩ := k
 have K := zSt (fun w1 (b : Below w.heap.size w w1) => k.went b)
 have TP := zSt (fun w1 (b : Below w.heap.size w w1) => zBe h G w1 (kg.went (Gr.step k.below b)))
 have RU := zSt (fun (r : Int) w1 (b : Below w.heap.size w w1) => zC3 h G r w1 (kg.went (Gr.step k.below b)))
 obtain ⟨b0, a1, c1, rfl, hc1, l1, i1, _⟩ := k.at hi
 have hki := hks _ (List.getElem_mem hi)
 have CL := zSt (fun w1 (b : Below w.heap.size w w1) => zIz h G hv ks[i] a1 c1 w1 (kg.went (Gr.step k.below b)) (i1.went b) (fun x hx => zCD hv (hki.2 x hx)) (by omega))
 have HC1 := zSt (fun w1 (b : Below w.heap.size w w1) => cell_later b hc1)
 have hcl := zEY G ks[i]
 have CS := zSt hcl.1
 have CR := zSt (show ∀ x ∈ clL G ks[i], zAG G x = true from fun x hx => zAS ((hcl.2 x).1 hx))
 have hcn : (clL G ks[i]).length <= 2709 := Nat.le_trans (zCl hcl.1 CR.out) (zAe hv)
 obtain ⟨x0, x1, x2, x3⟩ := k.box
 have q4 := k.items
 clear k kg hks hki hc1 l1 i1 hcl
 generalize ks[i] = Ki at *
 generalize clL G Ki = C at *
 have hmk := fun w => show (Instr.makeSlice 61 (.int .i64 ((top G : Int) + 1)) (.int .i64 ((top G : Int) + 1))).run Tryz.prog w = _ from zLT (top G + 1) (by omega) w
 unfold gv at TP RU CL
 go_enter Tryz.func78, Tryz.ntmps78
 go_wp2_with (go_at_call 51; refine (TP.out _ (.refl _ _)).mono ?_; rintro e w1 ⟨rfl, hb⟩; have HB := zSt hb; clear hb x0 x1 x2 x3 q4)
 have hB1 := zSt (Gr.step HB.out (boxed w1 (.cells (madeCells #[.slice none 0 0] (top G + 1)) 49)))
 have F0 := zSt (fun m w' hm hw hb => zPk (top G + 1) m w1 w' hm hw hb)
 obtain ⟨wa, hwa⟩ : ∃ wa, w1.alloc (.cells (madeCells #[.slice none 0 0] (top G + 1)) 49) = wa := ⟨_, rfl⟩
 have hsa : wa.heap.size = w1.heap.size + 1 := by rw [← hwa]; simp
 have HW := zSt hwa
 rw [hwa] at hB1
 have hs1 := HB.out.size
 have HQ := zSt (fun w' (b : Below wa.heap.size wa w') => (show w'.cell? ⟨p, 0, none⟩ = _ /\ w'.cell? ⟨p, 1, none⟩ = _ /\ w'.cell? ⟨p, 2, none⟩ = _ /\ w'.cell? ⟨p, 3, none⟩ = _ /\ w'.cell? ⟨p, 4, none⟩ = _ /\ w'.cell? ⟨b0, i, none⟩ = _ from ⟨(K.out w' (Gr.step hB1.out b)).box.x0, (K.out w' (Gr.step hB1.out b)).box.x1, (K.out w' (Gr.step hB1.out b)).box.x2, (K.out w' (Gr.step hB1.out b)).box.x3, (K.out w' (Gr.step hB1.out b)).items, HC1.out w' (Gr.step hB1.out b)⟩))
 have kA := drawn wa
 try rw [hwa]
 clear hwa hmk
 go_region_held3 (fun w' => w'.cell? ⟨p, 0, none⟩ = some (.slice h.a1 G.terms.length h.c1) /\ w'.cell? ⟨p, 1, none⟩ = some (.slice h.a2 G.nons.length h.c2) /\ w'.cell? ⟨p, 2, none⟩ = some (.slice h.a3 G.rules.length h.c3) /\ w'.cell? ⟨p, 3, none⟩ = some (.int .i64 G.start) /\ w'.cell? ⟨p, 4, none⟩ = some (.slice (some ⟨b0, 0, none⟩) ks.length c0) /\ w'.cell? ⟨b0, i, none⟩ = some (.slice a1 Ki.length c1))
  (exact HQ.out _ (by assumption))
  (first
   | (go_at_call 114; refine (CL.out _ (Gr.step hB1.out kA)).mono ?_; rintro e w2 ⟨a2, c2, rfl, hv2, hb2⟩; have k2 : Below wa.heap.size wa w2 := Gr.step kA hb2; have V2 := zSt hv2; clear hv2 hb2)
   | fail)
 have hs2 := k2.size
 have FR0 := zSt (show StR W w w2 w1.heap.size (top G + 1) none G C 0 (fun _ => .slice none 0 0) w2 from
  ⟨(F0.out w2.heap.size w2 (by omega) (Nat.le_refl _) (by rw [HW.out]; exact k2.block _ (by omega))).congr (fun s _ => by rw [List.take_zero]; rfl), .refl _ _⟩)
 have B2 := zSt (show Below w.heap.size w w2 from Gr.step hB1.out k2)
 have VB := zSt (show ∀ b o, a2 = some ⟨b, o, none⟩ -> w1.heap.size < b from fun b o e => by
  have := (World.ownsRow.lt V2.out b (by rw [e]; rfl)).1
  have e2 : wa.drew.heap.size = wa.heap.size := rfl
  omega)
 have VA := zSt (show ∀ wr, Sep.Fr (· = w1.heap.size) w2 wr -> ItsA a2 C wr from fun wr f => by
  by_cases hn : C = []
  ·subst hn
   exact .nil _ _
  ·exact V2.out.reads.keep fun b o e => f.block b (zE1 V2.out.reads hn e) fun q => by have := VB.out b o e; omega)
 have hcap := V2.out.shape
 clear HQ CL HC1 F0 HW kA V2 hB1
 obtain ⟨i0, hii, hz0, hz1, hz2⟩ := info_parts zB9
 go_wp2_with fail
 go_loopw [31] (fun q wr => ∃ (j : Nat) (D : Nat -> Value), q = .int .i64 j /\ j <= C.length /\ StR W w w2 w1.heap.size (top G + 1) none G C j D wr) (fun q _ => C.length - (intOf q).toNat)
 case atStart => exact ⟨0, _, rfl, Nat.zero_le _, FR0.out⟩
 case round =>
  obtain ⟨j, D, rfl, hj, hR⟩ := hrel
  have R := zSt hR
  clear hR FR0
  by_cases hlt : j < C.length
  ·obtain ⟨b1, o1, ea, p0, p1⟩ := (VA.out wr R.out.fr).at j hlt
   have hrt := CR.out _ (List.getElem_mem hlt)
   have FRD := zSt (fun (hb : behB G C[j] = true) (s : Nat) (hs : behV G C[j] = (s : Int)) r => zKb (k := j) hlt hb hs r)
   have FSK := zSt (fun (hb : behB G C[j] = false) r => zND (k := j) hlt hb r)
   have e1 : ((C[j].1, C[j].2) : Itm) = C[j] := rfl
   generalize C[j] = x at *
   obtain ⟨xr, xd⟩ := x
   dsimp only at p0 p1
   clear e1
   subst ea
   obtain ⟨z1, z2, z3, z4⟩ := zCk hv hrt
   dsimp only at z1 z2 z3 z4
   obtain ⟨d, rfl⟩ := Int.eq_ofNat_of_zero_le z3
   have hrr := (zAK.1 hrt).1
   have hBr := R.out.below (W := W) hs1 B2.out
   have hxb : Below wr.heap.size wr (wr.alloc (.cells #[.int .i64 xr, .int .i64 (d : Int)] 57)) := boxed _ _
   have y0 : (wr.alloc (.cells #[.int .i64 xr, .int .i64 (d : Int)] 57)).cell? ⟨wr.heap.size, 0, none⟩ = some (.int .i64 xr) := zAA rfl rfl
   have y1 : (wr.alloc (.cells #[.int .i64 xr, .int .i64 (d : Int)] 57)).cell? ⟨wr.heap.size, 1, none⟩ = some (.int .i64 (d : Int)) := zAA rfl rfl
   have hrb : zAN G xr = true := by
    unfold zAN
    exact decide_eq_true hrr
   have SYM := zSt (show ∀ hd : d < (zAB G xr).2.length, behB G (xr, (d : Int)) = true /\ behV G (xr, (d : Int)) = (zAB G xr).2[d] /\ 1 <= (zAB G xr).2[d] /\ (zAB G xr).2[d] <= (top G : Int) from fun hd => ⟨(zBL hrb hd).1, (zBL hrb hd).2, (zAy hv hrb hd).1, (zAy hv hrb hd).2⟩)
   have NOB := zSt (show ¬ d < (zAB G xr).2.length -> behB G (xr, (d : Int)) = false from fun hn => by
    cases e : behB G (xr, (d : Int)) with
    | false => rfl
    | true =>
     have := (zAa.1 e).2
     unfold rlen at this
     dsimp only at this
     omega)
   clear hrt hrr hrb
   go_wp2_with fail
   obtain ⟨wb, hwb⟩ : ∃ wb, wr.alloc (.cells #[.int .i64 xr, .int .i64 (d : Int)] 57) = wb := ⟨_, rfl⟩
   have hxs : wr.heap.size < wb.heap.size := by rw [← hwb]; simp
   rw [hwb] at y0 y1 hxb
   have Rb := zSt (R.out.went hxb)
   have hBb := Rb.out.below (W := W) hs1 B2.out
   clear hxb
   generalize wr.heap.size = xb at y0 y1 hxs ⊢
   try rw [hwb]
   clear hwb p0 p1 z3 hBr R
   have ZF := zSt (show wb.heap.size <= wb.heap.size from Nat.le_refl _)
   have kp := zSt (K.out wb hBb)
   have HQ := zSt (fun w' (b : Below wb.heap.size wb w') => (show w'.cell? ⟨p, 0, none⟩ = _ /\ w'.cell? ⟨p, 1, none⟩ = _ /\ w'.cell? ⟨p, 2, none⟩ = _ /\ w'.cell? ⟨p, 3, none⟩ = _ /\ w'.cell? ⟨xb, 0, none⟩ = _ /\ Below wb.heap.size wb w' from ⟨cell_later b kp.out.box.x0, cell_later b kp.out.box.x1, cell_later b kp.out.box.x2, cell_later b kp.out.box.x3, cell_later b y0, b⟩))
   have hbd := drawn wb
   have hbe : Below wb.heap.size wb (wb.alloc (.cells #[.int .i64 0, .slice none 0 0] 41)).drew := ((Below.refl _ _).alloc (Nat.le_refl _) _).drew
   have HT := zSt (show ∀ w' u v, Below wb.heap.size wb w' -> Below wb.heap.size wb ((w'.setCell ⟨wb.heap.size, 0, none⟩ u).setCell ⟨wb.heap.size, 1, none⟩ v) from fun w' u v hb => (hb.setCell (Nat.le_refl _) _).setCell (Nat.le_refl _) _)
   have Z0 := zSt (show (wb.alloc (.cells #[.int .i64 0, .slice none 0 0] 41)).drew.cell? ⟨wb.heap.size, 0, none⟩ = some (.int .i64 0) from zAA rfl rfl)
   have Z1 := zSt (show (wb.alloc (.cells #[.int .i64 0, .slice none 0 0] 41)).drew.cell? ⟨wb.heap.size, 1, none⟩ = some (.slice none 0 0) from zAA rfl rfl)
   have Z2 := zSt (show (wb.alloc (.cells #[.int .i64 0, .slice none 0 0] 41)).drew.frozen? ⟨wb.heap.size, 0, none⟩ = false from Gr.zBo rfl)
   have Z3 := zSt (show (wb.alloc (.cells #[.int .i64 0, .slice none 0 0] 41)).drew.frozen? ⟨wb.heap.size, 1, none⟩ = false from Gr.zBo rfl)
   have RX := zSt (fun w' (b : Below wb.heap.size wb w') => RU.out xr w' (Gr.step hBb b))
   generalize zAB G xr = rv at RX SYM NOB
   generalize zAN G xr = rvb at RX
   obtain ⟨rl, rr⟩ := rv
   dsimp only at RX SYM NOB
   go_region_held3 (fun w' => w'.cell? ⟨p, 0, none⟩ = some (.slice h.a1 G.terms.length h.c1) /\ w'.cell? ⟨p, 1, none⟩ = some (.slice h.a2 G.nons.length h.c2) /\ w'.cell? ⟨p, 2, none⟩ = some (.slice h.a3 G.rules.length h.c3) /\ w'.cell? ⟨p, 3, none⟩ = some (.int .i64 G.start) /\ w'.cell? ⟨xb, 0, none⟩ = some (.int .i64 xr) /\ Below wb.heap.size wb w')
    (first | exact HQ.out _ (by assumption) | exact HQ.out _ (Below.alloc (by assumption) (Below.size (by assumption)) _) | exact HQ.out _ (HT.out _ _ _ (by assumption)))
    (first
     | (go_at_call 53; refine (RX.out wb.drew hbd).mono ?_; rintro e v1 ⟨ra, rc, rfl, hR, hb⟩; have l1 : Below wb.heap.size wb v1 := Gr.step hbd hb; have RD := zSt hR; clear hb hR)
     | (go_at_call 53; refine (RX.out (wb.alloc (.cells #[.int .i64 0, .slice none 0 0] 41)).drew hbe).mono ?_; rintro e v1 ⟨ra, rc, rfl, hR, hb⟩; have l1 : Below wb.heap.size wb v1 := Gr.step hbe hb; have z0 := cell_later hb Z0.out; have z1 := cell_later hb Z1.out; have z2 := Gr.zA4 hb Z2.out Z0.out; have z3 := Gr.zA4 hb Z3.out Z0.out; have RD := zSt hR; clear hb hR)
     | fail)
   all_goals
    first
     | (have BC := zSt (zPU (rl := rl) (rc := rc) 41 l1 RD.out); obtain ⟨wc, hwc⟩ : ∃ wc, v1.alloc (.cells #[.int .i64 rl, .slice ra rr.length rc] 41) = wc := ⟨_, rfl⟩; rw [hwc] at BC; rw [hwc]; clear hwc RD l1; generalize v1.heap.size = rb at BC ⊢)
     | (have BC := zSt (zPV (rl := rl) (rc := rc) l1 RD.out z0 z1); obtain ⟨wc, hwc⟩ : ∃ wc, (v1.setCell ⟨wb.heap.size, 0, none⟩ (.int .i64 rl)).setCell ⟨wb.heap.size, 1, none⟩ (.slice ra rr.length rc) = wc := ⟨_, rfl⟩; rw [hwc] at BC; rw [hwc]; clear hwc RD l1 z0 z1 z2 z3; generalize hrbb : wb.heap.size = rb at BC ⊢)
    have Rc := zSt (Rb.out.went BC.out.below)
    have hBc := zSt (Gr.step hBb BC.out.below)
    have w0 := cell_later BC.out.below y0
    have w1' := cell_later BC.out.below y1
    have w2' := BC.out.cell
    by_cases hd : d < rr.length
    ·obtain ⟨s1, s2, s3, s4⟩ := SYM.out hd
     obtain ⟨b2, o2, ea, hc2⟩ := BC.out.at_ d hd (by omega)
     subst ea
     generalize rr[d] = sv at s2 s3 s4 hc2
     obtain ⟨sn, rfl⟩ := Int.eq_ofNat_of_zero_le (show 0 <= sv by omega)
     have hsn : sn < top G + 1 := by omega
     have FR := zSt (FRD.out s1 sn s2)
     have hcell := Rc.out.fam.cell sn hsn
     have hfree := Rc.out.fam.free sn
     have hrow : ItsV 57 w2.heap.size (zAl G (C.take j) (sn : Int)) (D sn) wc := Rc.out.fam.row sn hsn
     obtain ⟨da, dc, eD, hdc⟩ := hrow.shape
     rw [eD] at hcell hrow
     have hln := zMO G (C.take j) (sn : Int)
     have htk : (C.take j).length <= 2709 := by rw [List.length_take]; omega
     have hsi : (sn : Int) < (top G : Int) + 1 := by omega
     have hwr : IntKind.i64.wrap ((d : Int) + 1) = (d : Int) + 1 := by
      simp [IntKind.wrap, IntKind.bits, IntKind.signed]
      omega
     have hqc : w1.heap.size < wc.heap.size := Nat.lt_of_lt_of_le Rc.out.fam.bm Rc.out.fam.le
     have hmle := Rc.out.fam.le
     have ON := zSt (show (wc.alloc (.cells #[.int .i64 xr, .int .i64 ((d : Int) + 1)] 57)).drew.ownsRow _ _ _ _ _ _ from zDb 57 w2.heap.size wc.heap.size (xr, (d : Int) + 1) wc rfl hmle)
     have VR := zSt (hrow.went ((boxed wc (.cells #[.int .i64 xr, .int .i64 ((d : Int) + 1)] 57)).drew))
     have ALL := zSt (Rc.out.went ((boxed wc (.cells #[.int .i64 xr, .int .i64 ((d : Int) + 1)] 57)).drew))
     have hsz4 : w2.heap.size <= (wc.alloc (.cells #[.int .i64 xr, .int .i64 ((d : Int) + 1)] 57)).drew.heap.size := Nat.le_trans hmle (by simp)
     have PUT := zSt (fun (v' : Value) (w' : World) h1 h2 h3 => (show StR W w w2 w1.heap.size (top G + 1) none G C (j + 1) (upd D sn v') (w'.setCell ⟨w1.heap.size, sn, none⟩ v') from
      ⟨(ALL.out.fam.put (w' := w') (v' := v') hsn h1 h2 h3).congr (fun s _ => FR.out s), ALL.out.fam.fr hsn h2 ALL.out.fr (Nat.le_refl _)⟩))
     have CEL := zSt (fun (w' : World) (hg : (wc.alloc (.cells #[.int .i64 xr, .int .i64 ((d : Int) + 1)] 57)).drew.grownBy w' (D sn).ownBlock) => (show w'.cell? ⟨w1.heap.size, sn, none⟩ = some (D sn) /\ w'.frozen? ⟨w1.heap.size, sn, none⟩ = false from by
      have e := hg.block w1.heap.size (by simp; omega) (fun q => by
       have := (World.ownsRow.lt (Rc.out.fam.row sn hsn) _ q.symm).1
       have := Rc.out.fam.bm
       omega)
      exact ⟨(World.cell?_of_block (a := ⟨w1.heap.size, sn, none⟩) e).trans (ALL.out.fam.cell sn hsn), (World.frozen?_of_block (a := ⟨w1.heap.size, sn, none⟩) e).trans (ALL.out.fam.free sn)⟩))
     rw [eD] at PUT CEL
     generalize eX : zAl G (C.take j) (sn : Int) = XX at *
     clear SYM NOB FRD FSK FR Rc Rb HQ HT Z0 Z1 Z2 Z3 RX hrow eX eD ALL
     go_wp2_with fail
     go_region_law (first
      | (refine zAI _ (by rfl) _ _ 49 (by rfl) w2.heap.size 57 i0 (.agg #[.int .i64 0, .int .i64 0]) 2 16 Tryz.underlying49 hii hz0 hz1 hz2 rfl (by decide) (.slice da XX.length dc) XX.length (XX.flatMap ic) (by rfl) VR.out w2.heap.size (.slice (some ⟨wc.heap.size, 0, none⟩) 1 1) 1 (ic (xr, (d : Int) + 1)) (by rfl) ON.out (zKu _) (by unfold maxLen; omega) (by omega) hsz4 ?_; intro v4 w4 hown4 hg4 hloc4; obtain ⟨a4, c4, rfl⟩ := Rw.zAH hown4; obtain ⟨q9, f9⟩ := CEL.out w4 hg4; have R4 := zSt (PUT.out _ w4 (ItsV.of_append (Y := [(xr, (d : Int) + 1)]) (by simpa using hown4) rfl rfl) hg4 hloc4); clear hown4 hg4 hloc4))
     all_goals
      clear q9 f9 w0 w1' w2' hcell y0 y1
      go_wp2_with fail
      go_roundw
      case rel => exact ⟨j + 1, _, by go_num, by omega, R4.out⟩
      case measure => simp [intOf]; omega
    ·have hdn : rr.length <= d := by omega
     have FS := zSt (fun r => FSK.out (NOB.out hd) r)
     clear SYM NOB hd FRD FSK
     go_wp2_with fail
     go_roundw
     case rel => exact ⟨j + 1, D, by go_num, by omega, Rc.out.fam.congr (fun s _ => FS.out _), Rc.out.fr⟩
     case measure => simp [intOf]; omega
  ·have hE : j = C.length := by omega
   subst hE
   have FE := zSt (R.out.fam)
   have HBr := zSt (R.out.below (W := W) hs1 B2.out)
   rw [List.take_length] at FE
   have ST := CS.out
   go_wp2
   go_ret
   have hfs := FE.out.le
   refine ⟨w1.heap.size, top G + 1, rfl, hs1, by omega, fun s hs => ?_, HBr.out⟩
   have hrow := FE.out.row s hs
   dsimp only at hrow ⊢
   rw [← zIg ST]
   obtain ⟨a9, c9, e9, h9⟩ := hrow.shape
   have hc := FE.out.cell s hs
   rw [e9] at hc hrow
   exact ⟨a9, c9, hc, h9, hrow.reads, fun b' o e => by
    have := (World.ownsRow.lt hrow b' (by rw [e]; rfl)).1
    have := B2.out.size
    omega⟩
end Au
namespace Au
open Gr (Gram Sh gv GAt top zBe boxed)
open Im
open Rw (zAL)
theorem zJE : (Tryz.prog.info? 104).map (fun i => (i.zero, i.size, i.bytes)) = some (some (.agg #[.int .i64 0, .int .i64 0]), 2, 16) := by kernel_rfl
theorem zGv {j : Nat} (h : j < 9223372036854775808) : (Lit.int .i64 (j : Int)).wf = true := by
 simp only [Lit.wf, IntKind.min, IntKind.max, IntKind.signed, IntKind.bits, Bool.and_eq_true, decide_eq_true_eq, if_true]
 omega
def zSP (T : TypeId) (Y : List Itm) (w : World) (e : Ending) (w' : World) : Prop := ∃ a c, e = .returned (.slice a Y.length c) /\ Y.length <= c /\ ItsV T w.heap.size Y (.slice a Y.length c) w' /\ Below w.heap.size w w'
theorem zEM {W : World} {p : Nat} {S : Nat -> Prop} {h : Sh} {G : Gram} {ks : List (List Itm)} {ts : List (List (Int × Int))} {n : Nat} (w : World) (k : BAt W p S h G ks (tgt ts) n w) (kg : GAt h G W) (ht : top G <= 1000) (i : Nat) (hi : i <= 1000000) :
  Calls Tryz.prog 79 #[.pointer (some ⟨p, 0, none⟩), .int .i64 i] w (zSP 104 (zBv ts i (top G + 1)) w) := by
 obtain ⟨a0, c0, bt, bn, us, k⟩ := k
 obtain ⟨i0, hj, hz0, hz1, hz2⟩ := info_parts zJE
 have K := zSt (fun w1 (b : Below w.heap.size w w1) => k.went b)
 have TP := zSt (fun w1 (b : Below w.heap.size w w1) => zBe h G w1 (kg.went (Gr.step k.below b)))
 have R0 := zSt (ItsV.nil 104 w.heap.size w)
 have hwi := zGv (j := i) (by omega)
 obtain ⟨x0, x1, x2, x3⟩ := k.box
 clear k kg
 unfold gv at TP
 generalize top G = m at TP ht
 go_enter Tryz.func79, Tryz.ntmps79
 go_wp2_with (go_at_call 51; refine (TP.out _ (.refl _ _)).mono ?_; rintro e w1 ⟨rfl, hb⟩; have HB := zSt hb; have R1 := zSt (R0.out.went hb); clear hb)
 clear R0 x0 x1 x2 x3
 go_loopw [5, 15] (fun v q wr => ∃ j : Nat, q = .int .i64 j /\ j <= m + 1 /\ ItsV 104 w.heap.size (zBv ts i j) v wr /\ Below w.heap.size w wr) (fun _ q _ => m + 1 - (intOf q).toNat)
 case atStart => exact ⟨0, rfl, Nat.zero_le _, R1.out, HB.out⟩
 case round =>
  obtain ⟨j, rfl, hj', hV, hW⟩ := hrel
  have hlen := zLt ts i j
  obtain ⟨av, cv, rfl, hcv⟩ := hV.shape
  have V := zSt hV
  have kr := zSt (K.out wr hW)
  have q5 := kr.out.targets
  have hsz := hW.size
  have WW := zSt hW
  clear R1 HB hV hW
  by_cases hlt : j < m + 1
  ·have hwj := zGv (j := j) (by omega)
   have HX : W64 ((i : Int), (j : Int)) := ⟨hwi, hwj⟩
   have TMj := zSt kr.out.tm
   have OS := zSt (fun t (e : tgt ts ((i : Int), (j : Int)) = some t) => zIV e)
   have ON := zSt (fun (e : tgt ts ((i : Int), (j : Int)) = none) => zFl e)
   generalize eY : zBv ts i (j + 1) = Y' at OS ON
   have EY := zSt eY
   clear eY
   generalize zBv ts i j = Y at *
   cases hx : tgt ts ((i : Int), (j : Int)) with
   | none =>
    have V2 := zSt (show ItsV 104 w.heap.size Y' (.slice av Y.length cv) wr from (ON.out hx).symm ▸ V.out)
    clear OS ON V
    go_wp2_with (at_lookup; refine zCZ _ rfl _ _ rfl kaA Tryz.underlying92 Tryz.underlying3 (zOz _) bt n (tgt ts) rfl TMj.out ((i : Int), (j : Int)) rfl HX ?_; simp only [hx, Option.getD_none, Option.isSome_none])
    go_roundw
    case rel => exact ⟨j + 1, by go_num, by omega, EY.out.symm ▸ V2.out, WW.out⟩
    case measure => simp [intOf]; omega
   | some t =>
    have hE := zSt (OS.out t hx)
    have hs1 : wr.heap.size = wr.heap.size := rfl
    have ON2 := zSt (zDb 104 w.heap.size wr.heap.size ((j : Int), t) wr rfl hsz)
    have V1 := zSt (V.out.went (boxed wr (.cells #[.int .i64 (j : Int), .int .i64 t] 104)))
    have W1 := zSt (Gr.step WW.out (boxed wr (.cells #[.int .i64 (j : Int), .int .i64 t] 104)))
    have hsz1 := W1.out.size
    clear OS ON V
    go_wp2_with (first
     | (at_lookup; refine zCZ _ rfl _ _ rfl kaA Tryz.underlying92 Tryz.underlying3 (zOz _) bt n (tgt ts) rfl TMj.out ((i : Int), (j : Int)) rfl HX ?_; simp only [hx, Option.getD_some, Option.isSome_some])
     | (at_builtin; refine zAL _ rfl _ _ 51 rfl w.heap.size 104 i0 (.agg #[.int .i64 0, .int .i64 0]) 2 16 Tryz.underlying51 hj hz0 hz1 hz2 rfl (by decide) _ _ _ rfl V1.out w.heap.size _ 1 (ic ((j : Int), t)) rfl ON2.out (zKu _) (by unfold maxLen; omega) (by omega) hsz1 ?_; intro v' w' hown hg _; have V2 := zSt (ItsV.of_append (Y := [((j : Int), t)]) (by simpa using hown) rfl rfl); have W2 := zSt (W1.out.trans (zA6 hg hsz1 (zP2 V1.out))); clear hown hg))
    go_roundw
    case rel => exact ⟨j + 1, by go_num, by omega, (EY.out.trans hE.out).symm ▸ V2.out, W2.out⟩
    case measure => simp [intOf]; omega
  ·have hE : j = m + 1 := by omega
   subst hE
   go_wp2
   go_ret
   exact ⟨av, cv, rfl, hcv, V.out, WW.out⟩
end Au
namespace Au
open Gr (Gram Sh checkN top)
open Im
noncomputable def pj (G : Gram) (c : List Itm) (ks : List (List Itm)) (j : Nat) : Half := zCV G c (j - 1) (ks, [])
theorem zQU (G : Gram) (c : List Itm) (ks : List (List Itm)) : pj G c ks 0 = (ks, []) := rfl
theorem zQS {G : Gram} (hv : checkN G = 0) {c : List Itm} {ks : List (List Itm)} {j : Nat} (h : stL G c (j : Int) = []) : pj G c ks (j + 1) = pj G c ks j := by
 unfold pj
 cases j with
 | zero => rfl
 | succ j =>
  show zCV G c (j + 1) (ks, []) = zCV G c j (ks, [])
  rw [zBj, zGk h]
theorem zQR {G : Gram} (hv : checkN G = 0) {c : List Itm} {ks : List (List Itm)} {j : Nat} (h : stL G c (j : Int) ≠ []) :
  pj G c ks (j + 1) = (zGg (pj G c ks j).1 (stL G c (j : Int)), (pj G c ks j).2 ++ [((j : Int), (numK (pj G c ks j).1 (stL G c (j : Int)) : Int))]) := by
 cases j with
 | zero => exact absurd (zMJ hv c) h
 | succ j =>
  unfold pj
  show zCV G c (j + 1) (ks, []) = _
  rw [zBj]
  unfold oneS zGg numK
  rw [if_neg h]
  rfl
theorem zQT {G : Gram} (hv : checkN G = 0) {c : List Itm} {ks : List (List Itm)} {j : Nat} (h : stL G c (j : Int) ≠ []) : ∀ x ∈ (pj G c ks j).2, x.1 ≠ (j : Int) := fun x hx e => by
 have := zE6 G c ks (j - 1) x hx
 cases j with
 | zero => exact h (zMJ hv c)
 | succ j => omega
theorem zSl {G : Gram} (hv : checkN G = 0) {q : Whole} (h : WholeOk G (top G) q) (c : List Itm) (j : Nat) : (pj G c q.1 j).1.Nodup /\ (∀ x ∈ (pj G c q.1 j).1, Fit3 x) /\ (pj G c q.1 j).1.length <= q.1.length + j := by
 have H := zFV (G := G) (c := c) h.nodup (j - 1)
 refine ⟨H.nodup, fun x hx => ?_, by have := zGl G c q.1 (j - 1); unfold pj; omega⟩
 obtain ⟨more, e, hm⟩ := H.front
 unfold pj at hx
 rw [e] at hx
 rcases List.mem_append.1 hx with k | k
 ·exact fun y hy => zC0 hv ((h.good x k).2.2 y hy)
 ·obtain ⟨i, _, h1, _⟩ := hm x k
  exact fun y hy => by
   rw [h1] at hy
   exact zC0 hv (zCR (((zD2 _ _ _).2 y).1 hy)).1
theorem zRu {G : Gram} (hv : checkN G = 0) (c : List Itm) (s : Int) : Fit3 (stL G c s) /\ (stL G c s).length <= 2709 := by
 have hr : ∀ y ∈ stL G c s, zAG G y = true := fun y hy => (zCR (((zD2 _ _ _).2 y).1 hy)).1
 exact ⟨fun y hy => zC0 hv (hr y hy), Nat.le_trans (zCl (zD2 G c s).1 hr) (zAe hv)⟩
structure LvR (W : World) (p : Nat) (S : Nat -> Prop) (h : Sh) (G : Gram) (ts : List (List (Int × Int))) (m : Nat) (w2 : World) (H : Half) (wr : World) : Prop where
 own : ∃ T n, BAt W p T h G H.1 (tgt (ts ++ [H.2])) n wr /\ n <= m /\ Sep.Ext T S w2
 fr : Sep.Fr S w2 wr
def Left (W : World) (p : Nat) (S : Nat -> Prop) (h : Sh) (G : Gram) (ks : List (List Itm)) (ts : List (List (Int × Int))) (m : Nat) (w : World) (e : Ending) (w' : World) : Prop :=
 e = .returned (.tuple #[]) /\ ∃ T n, BAt W p T h G ks (tgt ts) n w' /\ n <= m /\ Sep.Fr S w w' /\ Sep.Ext T S w
end Au
namespace Au
open Gr (Gram Sh GAt checkN top drawn)
open Im
theorem zRf {W : World} {p : Nat} {S T T3 : Nat -> Prop} {h : Sh} {G : Gram} {ts : List (List (Int × Int))} {m n nn : Nat} {w2 wr w3 w4 : World} {H : Half} {K : List Itm} {j : Nat} {bt : Nat}
  (h5 : w3.cell? ⟨p, 5, none⟩ = some (.map (some bt))) (hB : BAt W p T3 h G (zGg H.1 K) (tgt (ts ++ [H.2])) n w3) (hF : Sep.Fr T wr w3) (hX : Sep.Ext T3 T wr) (hx : Sep.Ext T S w2) (hf : Sep.Fr S w2 wr)
  (hT : TM bt (n + 1) (fun y => if y = ((ts.length : Int), (j : Int)) then some (numK H.1 K : Int) else tgt (ts ++ [H.2]) y) w4) (ht : Sep.Fr (· = bt) w3 w4) (hs : ∀ x ∈ H.2, x.1 ≠ (j : Int)) (hn : n + 1 <= m) :
  LvR W p S h G ts m w2 (zGg H.1 K, H.2 ++ [((j : Int), (numK H.1 K : Int))]) w4 := by
 obtain ⟨a, c, bt', bn, us, k⟩ := hB
 have e : bt' = bt := by
  have := k.targets
  rw [h5] at this
  injection this with this
  injection this with this
  injection this with this
  exact this.symm
 subst e
 have k4 := k.turn ht (hT.eq fun y => (zQn hs y).symm)
 have hbt : T3 bt' := k.st
 have hX2 : Sep.Ext T3 S w2 := hx.trans hX hf.size
 refine ⟨⟨T3, n + 1, ⟨a, c, bt', bn, us, k4⟩, hn, hX2⟩, ?_⟩
 refine (hf.trans (T := T) hF hx).trans ht fun q hq => hq ▸ hX2 _ hbt
theorem zSr {W : World} {p : Nat} {T : Nat -> Prop} {h : Sh} {G : Gram} {ks : List (List Itm)} {X : Itm -> Option Int} {n bt : Nat} {w : World} (hB : BAt W p T h G ks X n w) (h5 : w.cell? ⟨p, 5, none⟩ = some (.map (some bt))) : TM bt n X w := by
 obtain ⟨a, c, bt', bn, us, k⟩ := hB
 have := k.targets
 rw [h5] at this
 injection this with this
 injection this with this
 injection this with this
 subst this
 exact k.tm
theorem zST {W : World} {p : Nat} {T : Nat -> Prop} {h : Sh} {G : Gram} {ks : List (List Itm)} {X : Itm -> Option Int} {n : Nat} {w : World} (hB : BAt W p T h G ks X n w) : ∃ bt, w.cell? ⟨p, 5, none⟩ = some (.map (some bt)) := by
 obtain ⟨a, c, bt, bn, us, k⟩ := hB
 exact ⟨bt, k.targets⟩
theorem zQK (ks : List (List Itm)) (K : List Itm) : numK ks K <= ks.length := by
 unfold numK
 have h := List.idxOf_lt_length_of_mem (l := ks ++ [K]) (a := K) (by simp)
 rw [List.length_append, List.length_singleton] at h
 omega
theorem zLK {W : World} {p : Nat} {S : Nat -> Prop} {h : Sh} {G : Gram} {q : Whole} {n : Nat} (w : World) (k : BAt W p S h G q.1 (tgt q.2) n w) (kg : GAt h G W) (hv : checkN G = 0) (ht : top G <= 1000)
  (ok : WholeOk G (top G) q) (hq : q.2.length < q.1.length) (hl : q.1.length <= 100000) (hn : n <= 1000000000) :
  Calls Tryz.prog 41 #[.pointer (some ⟨p, 0, none⟩), .int .i64 q.2.length] w (Left W p S h G (rnd G (top G) q).1 (rnd G (top G) q).2 (n + (top G + 1)) w) := by
 have ST := zSt (zMN w k kg hv ht (fun x hx => ⟨Nat.le_trans (zCl (ok.good x hx).2.1 (ok.good x hx).2.2) (zAe hv), (ok.good x hx).2.2⟩) (by omega) q.2.length hq)
 rw [zIZ hq]
 have OK := zSt (fun j => zSl hv ok (clL G q.1[q.2.length]) j)
 have K0 := zSt k
 have hlen := k.inn
 clear k kg
 generalize clL G q.1[q.2.length] = C at *
 generalize hts : q.2 = ts at *
 generalize hks : q.1 = ks at *
 clear hts hks ok
 go_enter Tryz.func41, Tryz.ntmps41
 go_wp2_with (go_at_call 78; refine ST.out.mono ?_; rintro e w2 ⟨b, cc, rfl, hb1, hb2, hrows, hbw⟩; have ROWS := zSt hrows; have HB2 := zSt hbw; clear hrows hbw)
 have R0 := zSt (show LvR W p S h G ts (n + 0) w2 (pj G C ks 0) w2 from ⟨⟨S, n, (K0.out.went HB2.out).eq (fun x => by rw [zQU]; exact (zOm ts x).symm) (Nat.le_refl _), Nat.le_refl _, .refl _ _⟩, .refl _ _⟩)
 have hsw := HB2.out.size
 go_loopw [10] (fun i wr => ∃ j : Nat, i = .int .i64 j /\ j <= top G + 1 /\ LvR W p S h G ts (n + j) w2 (pj G C ks j) wr) (fun i _ => top G + 1 - (intOf i).toNat)
 case atStart => exact ⟨0, rfl, Nat.zero_le _, R0.out⟩
 case round =>
  obtain ⟨j, rfl, hj, hR⟩ := hrel
  have R := zSt hR
  clear hR R0
  by_cases hlt : j < top G + 1
  ·obtain ⟨a1, c1, hc, hcc, hi1, hnb⟩ := ROWS.out j hlt
   have hsb : ¬ S b := fun q => by have := K0.out.inn b q; omega
   have hc' : wr.cell? ⟨b, j, none⟩ = some (.slice a1 (stL G C (j : Int)).length c1) := R.out.fr.cell hc hsb
   have L2 := zSt (show LAt S (stL G C (j : Int)) (.slice a1 (stL G C (j : Int)).length c1) w2 from ⟨a1, c1, rfl, hcc, hi1, fun _ b' o e q => by
    have := hnb b' o e
    have := K0.out.inn b' q
    omega⟩)
   obtain ⟨hk1, hk2, hk3⟩ := OK.out j
   obtain ⟨hf1, hf2⟩ := zRu hv C (j : Int)
   have PS := zSt (fun h0 => zQS (c := C) (ks := ks) (j := j) hv h0)
   have PN := zSt (fun h0 => zQR (c := C) (ks := ks) (j := j) hv h0)
   have SY := zSt (fun h0 => zQT (c := C) (ks := ks) (j := j) hv h0)
   obtain ⟨⟨T, n1, hB, hn1, hXT⟩, hF⟩ := R.out
   have KN := zSt (fun w1 (b : Below wr.heap.size wr w1) => zE4 w1 (hB.went b) (stL G C (j : Int)) a1 c1 ((L2.out.fr hF hXT).went b) hf1 hk2 hk1 (by omega) (by omega))
   clear hc hcc hi1 hnb hf1 hk1 hk2
   by_cases h0 : stL G C (j : Int) = []
   ·have PE := zSt (PS.out h0)
    have hz : (stL G C (j : Int)).length = 0 := by rw [h0]; rfl
    rw [hz] at hc'
    clear PS PN SY KN L2 h0 hz
    go_wp2_with fail
    go_roundw
    case rel => exact ⟨j + 1, by go_num, by omega, by rw [PE.out]; exact ⟨⟨T, n1, hB, by omega, hXT⟩, hF⟩⟩
    case measure => simp [intOf]; omega
   ·have PE := zSt (PN.out h0)
    have SE := zSt (SY.out h0)
    have hz : 0 < (stL G C (j : Int)).length := List.length_pos_iff.2 h0
    clear PS PN SY L2 h0
    generalize stL G C (j : Int) = K at *
    have kA := drawn wr
    obtain ⟨bt, h5⟩ := zST hB
    have h5d : wr.drew.cell? ⟨p, 5, none⟩ = some (.map (some bt)) := h5
    have hnk := zQK (pj G C ks j).1 K
    have HX : W64 ((ts.length : Int), (j : Int)) := ⟨zGv (by omega), zGv (by omega)⟩
    have hwf := zGv (j := numK (pj G C ks j).1 K) (by omega)
    have END := zSt (fun (T3 : Nat -> Prop) w3 w4 h1 h2 h3 h4 h6 h7 => zRf (W := W) (p := p) (h := h) (G := G) (S := S) (T := T) (T3 := T3) (m := n + (j + 1)) (n := n1) (nn := 0) (w2 := w2) (wr := wr) (w3 := w3) (w4 := w4) (H := pj G C ks j) (K := K) (j := j) (bt := bt) (ts := ts) h1 h2 h3 h4 hXT hF h6 h7 SE.out (by omega))
    go_wp2_with fail
    go_region_law (first
     | (go_simp; go_at_call 40; (with_reducible refine (KN.out _ (by assumption)).mono ?_); rintro e w3 ⟨rfl, T3, hB3, hF3, hX3, h53⟩; have q53 := h53 _ h5d; obtain ⟨w4, hrun, m4, t4⟩ := (zSr hB3 q53).store (T := 92) kaA Tryz.underlying92 Tryz.underlying3 (by unfold maxLen; omega) HX hwf; have hrun2 : (Instr.mapUpdate 92 (.map (some bt)) (.agg #[.int .i64 (ts.length : Int), .int .i64 (j : Int)]) (.int .i64 (numK (pj G C ks j).1 K : Int))).run Tryz.prog w3 = .ok () w4 := hrun; have E4 := zSt (END.out T3 w3 w4 q53 hB3 ((Sep.Fr.refl T wr).drew.trans hF3 (.refl _ _)) (hX3.at (Nat.le_refl _)) m4 (zBV t4)); clear hB3 hF3 hX3 h53 hrun m4 t4))
    all_goals
     go_wp2_with fail
     go_roundw
     case rel => exact ⟨j + 1, by go_num, by omega, by rw [PE.out]; exact E4.out⟩
     case measure => simp [intOf]; omega
  ·have hE : j = top G + 1 := by omega
   subst hE
   obtain ⟨⟨T, n1, hB, hn1, hXT⟩, hF⟩ := R.out
   go_wp2
   try simp only [Exit.inBlock, Exit.then]
   refine bodyPost_ret (v := .tuple #[]) (by simp [results, Tryz.results41, go_sem]) rfl ?_
   exact ⟨rfl, T, n1, hB, hn1, (Sep.Fr.of_below HB2.out).trans hF (.refl _ _), hXT.at hsw⟩
end Au
namespace Au
open Gr (Gram Sh GAt top boxed cell_later)
open Im
open Rw (zAL)
theorem zJC : (Tryz.prog.info? 53).map (fun i => (i.zero, i.size, i.bytes)) = some (some (.agg #[.slice none 0 0, .slice none 0 0]), 2, 48) := by kernel_rfl
def zDD (G : Gram) (ks : List (List Itm)) (ts : List (List (Int × Int))) (i : Nat) : List Sta := (List.range i).map fun j => (zAF ks j, zBv ts (j : Int) (top G + 1))
theorem zIq (G : Gram) (ks : List (List Itm)) (ts : List (List (Int × Int))) (i : Nat) : zDD G ks ts (i + 1) = zDD G ks ts i ++ [(zAF ks i, zBv ts (i : Int) (top G + 1))] := by
 unfold zDD
 rw [List.range_succ, List.map_append]
 rfl
theorem zCo (G : Gram) (ks : List (List Itm)) (ts : List (List (Int × Int))) (i : Nat) : (zDD G ks ts i).length = i := by simp [zDD]
theorem zKB {G : Gram} {q : Whole} (h : Done G q) : zDD G q.1 q.2 q.1.length = states q := by
 refine List.ext_getElem (by rw [zCo, zBJ h.all]) fun i h1 h2 => ?_
 rw [zCo] at h1
 have hi : i < q.2.length := by rw [h.all]; exact h1
 have e := zCF h.all h1
 rw [List.getElem?_eq_getElem h2, Option.some.injEq] at e
 rw [e]
 simp only [zDD, List.getElem_map, List.getElem_range]
 rw [zLs h.ok hi]
def zMn (X : List Sta) (w : World) (e : Ending) (w' : World) : Prop := ∃ a c, e = .returned (.slice a X.length c) /\ StaA a X w' /\ X.length <= c /\ Below w.heap.size w w'
theorem zML (T : TypeId) (base q : Nat) (u v : Value) (w : World) (hq : q = w.heap.size) (hb : base <= q) (hu : u.oneCell' = true) (hv : v.oneCell' = true) : (w.alloc (.cells #[u, v] T)).ownsRow base T 2 (.slice (some ⟨q, 0, none⟩) 1 1) 1 [u, v] := by
 subst hq
 exact World.ownsRow_lit w #[u, v] 1 hb (by decide) (by simp)
theorem zJi {W : World} {p : Nat} {S : Nat -> Prop} {h : Sh} {G : Gram} {ks : List (List Itm)} {ts : List (List (Int × Int))} {n : Nat} (w : World) (k : BAt W p S h G ks (tgt ts) n w) (kg : GAt h G W) (ht : top G <= 1000) (hl : ks.length <= 1000000) :
  Calls Tryz.prog 42 #[.pointer (some ⟨p, 0, none⟩)] w (zMn (zDD G ks ts ks.length) w) := by
 have TR := zSt (fun w1 (b : Below w.heap.size w w1) i (hi : i <= 1000000) => zEM w1 (k.went b) kg ht i hi)
 obtain ⟨a0, c0, bt, bn, us, k⟩ := k
 obtain ⟨i0, hj, hz0, hz1, hz2⟩ := info_parts zJC
 have K := zSt k
 have S0 := zSt (StV.nil 53 w.heap.size w)
 have q4 := k.items
 clear k kg
 go_enter Tryz.func42, Tryz.ntmps42
 go_wp2
 go_loopw [3, 11] (fun v q wr => ∃ (j : Nat) (L : List StC), q = .int .i64 j /\ j <= ks.length /\ L.map Prod.fst = zDD G ks ts j /\ StV 53 w.heap.size L v wr /\ Below w.heap.size w wr) (fun _ q _ => ks.length - (intOf q).toNat)
 case atStart => exact ⟨0, [], rfl, Nat.zero_le _, rfl, S0.out, .refl _ _⟩
 case round =>
  obtain ⟨j, L, rfl, hjl, hM, hV, hW⟩ := hrel
  have hlen : L.length = j := by
   have := congrArg List.length hM
   rwa [List.length_map, zCo] at this
  subst hlen
  obtain ⟨av, cv, rfl, hcv⟩ := hV.len
  have V := zSt hV
  have WW := zSt hW
  have MM := zSt hM
  clear S0 hV hM
  by_cases hlt : L.length < ks.length
  ·obtain ⟨b, a1, c1, rfl, hc1, l1, i1, _⟩ := K.out.at hlt
   have hc2 := cell_later hW hc1
   have U1 := zSt (show LOk ks[L.length] (.slice a1 ks[L.length].length c1) (.slice av L.length cv) w from ⟨a1, c1, rfl, l1, i1, fun hne b o e g => by
    have h1 := zE1 i1 hne e
    have h2 := (World.ownsRow.lt V.out.row b g).1
    omega⟩)
   have hst := zA8 hlt
   have EX := zSt (show zDD G ks ts (L.length + 1) = zDD G ks ts L.length ++ [(ks[L.length], zBv ts (L.length : Int) (top G + 1))] from by rw [zIq, hst])
   have TJ := zSt (TR.out wr hW L.length (by omega))
   have hL1 : L.length <= 1000000 := by omega
   generalize ks[L.length] = Kj at *
   generalize zBv ts (L.length : Int) (top G + 1) = Y at *
   clear i1 l1 hst hW
   go_wp2_with (first
    | (go_at_call 79; refine TJ.out.mono ?_; rintro e w2 ⟨a2, c2, rfl, l2, v2, b2⟩; have V2 := zSt (V.out.went b2); have W2 := zSt (Gr.step WW.out b2); have U2 := zSt ((U1.out.went WW.out).went b2); have Y2 := zSt (show LOk Y (.slice a2 Y.length c2) (.slice av L.length cv) w2 from ⟨a2, c2, rfl, l2, v2.reads, fun hne b o e g => by
      have h1 := (World.ownsRow.lt V.out.row b g).2
      have h2 := (World.ownsRow.lt v2 b (by rw [e]; rfl)).1
      omega⟩); have hs2 := W2.out.size; have ONE := zSt (zML 53 w.heap.size w2.heap.size (.slice a1 Kj.length c1) (.slice a2 Y.length c2) w2 rfl hs2 rfl rfl); have b3 := boxed w2 (.cells #[.slice a1 Kj.length c1, .slice a2 Y.length c2] 53); have V3 := zSt (V2.out.went b3); have W3 := zSt (Gr.step W2.out b3); have U3 := zSt (U2.out.went b3); have Y3 := zSt (Y2.out.went b3); have hs3 := W3.out.size; clear l2 v2 b2 b3)
    | (at_builtin; refine zAL _ rfl _ _ 46 rfl w.heap.size 53 i0 (.agg #[.slice none 0 0, .slice none 0 0]) 2 48 Tryz.underlying46 hj hz0 hz1 hz2 rfl (by decide) _ _ _ rfl V3.out.row w.heap.size _ 1 [.slice a1 Kj.length c1, .slice a2 Y.length c2] rfl ONE.out (by simp [Value.oneCell']) (by unfold maxLen; omega) (by omega) hs3 ?_; intro v' w4 hown hg hloc; have V4 := zSt (V3.out.snoc ((Kj, Y), (.slice a1 Kj.length c1, .slice a2 Y.length c2)) ⟨U3.out, Y3.out⟩ hown hg (hloc.imp id fun e => ⟨_, Nat.le_refl _, e⟩)); have W4 := zSt (W3.out.trans (zA6 hg hs3 fun q hq => (World.ownsRow.lt V3.out.row q hq).1)); clear hown hg hloc))
   go_roundw
   case rel => exact ⟨L.length + 1, _, by go_num, by omega, by rw [List.map_append, MM.out, EX.out]; rfl, V4.out, W4.out⟩
   case measure => simp [intOf]; omega
  ·have hE : L.length = ks.length := by omega
   have R := zSt (show StaA av (zDD G ks ts ks.length) wr from by rw [← hE, ← MM.out]; exact V.out.at)
   have hll : (zDD G ks ts ks.length).length = L.length := by rw [zCo, hE]
   clear hE
   go_wp2
   go_ret
   exact ⟨av, cv, by rw [hll]; rfl, R.out, by rw [hll]; exact hcv, WW.out⟩
