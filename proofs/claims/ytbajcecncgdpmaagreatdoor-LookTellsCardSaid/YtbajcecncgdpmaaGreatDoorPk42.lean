/- A part of the proof. -/
import Derived.Test.YtbajcecncgdpmaaGreatDoorPk41
set_option maxHeartbeats 8000000
set_option maxRecDepth 100000
set_option linter.unusedVariables false
namespace Go.Proofs.YtbajcecncgdpmaaGreatDoor
namespace Au
open Go.RowKit Go.Maps
open Gr (Gram Sh gv GAt Bx checkN top boxed drawn cell_later)
open Im
open Rw (zAF)
theorem zJ3 (h : Sh) (G : Gram) (w : World) (k : GAt h G w) :
  Calls Tryz.prog 18 #[gv h G] w (zHY G w) := by
 have C0 := zUB (fun w1 (b : Below w.heap.size w w1) => Gr.zFC h G w1 (k.went b))
 have X := zUB (Bx.start h G w 25)
 by_cases hc : checkN G = 0
 ·have BG := zUB (fun w1 (b : Below w.heap.size w w1) => zKR h G w1 (k.went b))
  have TP := zUB (fun w1 (b : Below w.heap.size w w1) => Gr.zFz h G w1 (k.went b))
  have hrl : G.rules.length <= 65536 := by
   have := (zCj (Gr.zAR hc).1).1
   omega
  have CL := zUB (fun w1 (b : Below w.heap.size w w1) (L : List Itm) (a : Option Addr) (c : Nat) (kl : ItsA a L w1) (hL : L.length <= 10000) => zFE h G hc L a c w1 (k.went b) kl hL hrl)
  have ST := zUB (fun w1 (b : Below w.heap.size w w1) (L : List Itm) (a : Option Addr) (c : Nat) (s : Int) (kl : ItsA a L w1) (hL : L.length <= 10000) => zNK h G hc L a c s w1 (k.went b) kl hL)
  have ht := zC5 hc
  rw [hc] at C0
  clear k
  unfold gv at *
  go_enter Tryz.func18, Tryz.ntmps18
  go_wp2_with (first
   | (go_at_call 30; refine (C0.out _ X.out.below).mono ?_; rintro e w1 ⟨rfl, hb⟩; have X1 := zUB (X.out.went hb); obtain ⟨g0, g1, g2, g3⟩ := X1.out.box; clear hb)
   | (go_at_call 46; refine (BG.out _ X1.out.below).mono ?_; rintro e w3 ⟨Y, a3, c3, rfl, y1, y2, y3⟩; have HY := zUB (show Y = [((G.rules.length : Int), 0)] from y1.uniq ⟨zCt _, fun x => List.mem_singleton⟩); have X3 := zUB (X1.out.went y3); have SC := zUB (ItsV.shape y2); have IY := zUB (ItsV.reads y2); clear y1 y2 y3 g0 g1 g2 g3))
  have hcap : Y.length <= c3 := by
   obtain ⟨a', c', e, hc'⟩ := SC.out
   simp only [Value.slice.injEq] at e
   rw [e.2.2]
   exact hc'
  have R0 := zUB (zPY (TS := 53) X3.out HY.out hcap IY.out)
  clear C0 BG X X1 SC IY HY hcap
  go_loopw [5, 6, 7, 8, 9, 10, 11] (fun v i _ _ _ _ _ wr => ∃ m : Nat, i = .int .i64 m /\ m <= 2000 /\ RbR 53 w h G (runs G (top G) m) v wr /\ zEr G m /\ (runs G (top G) m).1.length <= 2000) (fun _ i _ _ _ _ _ _ => 2001 - (intOf i).toNat)
  case atStart => exact ⟨0, rfl, Nat.zero_le _, R0.out, zFj G, by simp [runs]⟩
  case round =>
   obtain ⟨m, rfl, hm, hR, hg, hfew⟩ := hrel
   have R := zUB hR
   clear hR R0
   have hok := zUB (zDU G (top G) m)
   have hgl := hg.len
   obtain ⟨a5, c5, rfl, hc5, hS5⟩ := R.out.at
   by_cases hlt : m < (runs G (top G) m).1.length
   ·have NX := zUB (fun (hs : ¬ 2000 < (runs G (top G) (m + 1)).1.length) => (show zEr G (m + 1) /\ (runs G (top G) (m + 1)).1.length <= 2000 from ⟨hg.next (by unfold Stop; omega), by omega⟩))
    have MY := zUB (fun (hs : 2000 < (runs G (top G) (m + 1)).1.length) => (hg.next (show ¬ Stop (runs G (top G) m) from by unfold Stop; omega)).stop (.inl hs))
    have RD := zUB (hg.round hlt)
    have hst := zAl hlt
    have hgood := hok.out.good _ (zAb hlt)
    obtain ⟨b0, o0, a1, c1, a2, c2, ea, z1, z2, i1, i2, l1, l2⟩ := hS5 m (by rw [zAQ]; exact hlt)
    rw [zBP _ hlt, ← hst] at z1 i1 l1
    dsimp only at z1 i1 l1
    subst ea
    have hKl : (zAG (runs G (top G) m).1 m).length <= 10000 := Nat.le_trans (zBe hgood.2.1 hgood.2.2) (Nat.le_trans (zAW hc) (by omega))
    have CI := zUB (fun w1 (b : Below wr.heap.size wr w1) => CL.out w1 (R.out.bx.went b).below _ a1 c1 (i1.went b) hKl)
    have HQ := zUB (fun w' (b : Below wr.heap.size wr w') => (show w'.cell? ⟨w.heap.size, 0, none⟩ = _ /\ w'.cell? ⟨w.heap.size, 1, none⟩ = _ /\ w'.cell? ⟨w.heap.size, 2, none⟩ = _ /\ w'.cell? ⟨w.heap.size, 3, none⟩ = _ /\ w'.cell? ⟨b0, o0 + m * 2, none⟩ = some (.slice a1 (zAG (runs G (top G) m).1 m).length c1) from ⟨(R.out.bx.went b).box.x0, (R.out.bx.went b).box.x1, (R.out.bx.went b).box.x2, (R.out.bx.went b).box.x3, cell_later b z1⟩))
    have kA := drawn wr
    have TL := zUB (hgl)
    clear z1 z2 i1 i2 l1 l2 hS5 hst hgood hgl hKl
    generalize hKm : zAG (runs G (top G) m).1 m = Km at *
    clear hKm
    go_wp2_with fail
    go_region_held3 (fun w' => w'.cell? ⟨w.heap.size, 0, none⟩ = some (.slice h.a1 G.terms.length h.c1) /\ w'.cell? ⟨w.heap.size, 1, none⟩ = some (.slice h.a2 G.nons.length h.c2) /\ w'.cell? ⟨w.heap.size, 2, none⟩ = some (.slice h.a3 G.rules.length h.c3) /\ w'.cell? ⟨w.heap.size, 3, none⟩ = some (.int .i64 G.start) /\ w'.cell? ⟨b0, o0 + m * 2, none⟩ = some (.slice a1 Km.length c1))
     (exact HQ.out _ (by assumption))
     (first
      | (go_at_call 16; refine (CI.out _ kA).mono ?_; rintro e w4 ⟨C, a6, c6, rfl, hcc, hC, hCA, hb, hnw⟩; have HC := zUB (hC.uniq (zDX G Km)); have k4 : Below wr.heap.size wr w4 := Gr.step kA hb; have H0 := zUB (RbR.begin (TT := 104) R.out k4 hcc hCA hnw); clear hb hC hCA hnw)
      | fail)
    have hCl : C.length <= 10000 := by
     rw [HC.out]
     exact Nat.le_trans (zBe (zDX G Km).1 fun x hx => zAT (((zDX G Km).2 x).1 hx)) (Nat.le_trans (zAW hc) (by omega))
    clear HQ CI kA R k4
    have OS := zUB (fun n => zFh hc hok.out C n)
    have SMK := zUB (fun n hn => zKA hc hok.out C n hn hfew)
    have TW := zUB (fun n => zP1 (G := G) (c := C) hok.out.nodup n)
    have OL := zUB (fun n => zDC G C (runs G (top G) m).1 n)
    have ON := zUB (fun n => zBU G C n ((runs G (top G) m).1, []))
    have RE := zUB (show runs G (top G) (m + 1) = ((zAk G C (top G) ((runs G (top G) m).1, [])).1, (runs G (top G) m).2 ++ [(zAk G C (top G) ((runs G (top G) m).1, [])).2]) from by rw [HC.out]; exact RD.out)
    have M0 := zUB (fun n => zHI G C ((runs G (top G) m).1, []) 0 n)
    have htl := TL.out
    clear RD HC hok
    generalize hts : (runs G (top G) m).2 = ts at *
    generalize hks : (runs G (top G) m).1 = ks at *
    clear hts hks
    go_wp2_with fail
    go_loopw [5, 8, 9, 10, 11] (fun v5 v8 s _ _ wx => ∃ j : Nat, s = .int .i64 ((j : Int) + 1) /\ j <= top G /\ RbH 53 104 w h G ts C (.slice a6 C.length c6) (zAk G C j (ks, [])) v5 v8 wx) (fun _ _ s _ _ _ => top G + 2 - (intOf s).toNat)
    case atStart => exact ⟨0, rfl, Nat.zero_le _, H0.out⟩
    case round =>
     obtain ⟨j, rfl, hj, hH⟩ := hrel
     have H := zUB hH
     clear hH H0
     obtain ⟨g0, g1, g2, g3⟩ := H.out.bx.box
     have TP2 := zUB (TP.out wr H.out.bx.below)
     by_cases hlt : j < top G
     ·obtain ⟨av, cv, rfl, hcv, hSv⟩ := H.out.at
      have SV := zUB hSv
      obtain ⟨a8, c8, rfl, hc8⟩ := H.out.tr.shape
      have hp2 := TW.out j
      have hp1 := OL.out j
      have hshort := (OS.out j).1
      have SM := zUB (SMK.out j (by omega))
      have hge := M0.out j
      rw [Nat.zero_add] at hge
      have hge2 : ks.length <= (zAk G C j (ks, [])).1.length := hge
      have es : ((j + 1 : Nat) : Int) = (j : Int) + 1 := by omega
      have N0 := zUB (fun (h0 : stL G C ((j : Int) + 1) = []) => (show zAk G C (j + 1) (ks, []) = zAk G C j (ks, []) from by rw [ON.out, zEY (by rw [es]; exact h0)]))
      have N1 := zUB (fun (h0 : stL G C ((j : Int) + 1) ≠ []) (h1 : stL G C ((j : Int) + 1) ∈ (zAk G C j (ks, [])).1) => (show zAk G C (j + 1) (ks, []) = _ from by rw [ON.out, zI6 (by rw [es]; exact h0) (by rw [es]; exact h1), es]))
      have N2 := zUB (fun (h0 : stL G C ((j : Int) + 1) ≠ []) (h1 : stL G C ((j : Int) + 1) ∉ (zAk G C j (ks, [])).1) => (show zAk G C (j + 1) (ks, []) = _ from by rw [ON.out, zIf (by rw [es]; exact h0) (by rw [es]; exact h1), es]))
      clear hge es OS TW OL SMK hSv
      obtain ⟨p', hp'⟩ : ∃ p', zAk G C (j + 1) (ks, []) = p' := ⟨_, rfl⟩
      have EP := zUB hp'
      rw [hp'] at N0 N1 N2
      clear hp'
      have STH := zUB (fun w1 (b : Below wr.heap.size wr w1) => ST.out w1 (H.out.bx.went b).below C a6 c6 ((j : Int) + 1) (by
       obtain ⟨a, c, e, _, h3, _⟩ := (H.out.went b).clo
       simp only [Value.slice.injEq] at e
       rw [e.1]
       exact h3) hCl)
      generalize zAk G C j (ks, []) = p at *
      have FK := zUB (zR4 (ts := ts) (K := stL G C ((j : Int) + 1)) hshort)
      have FN := zUB (zRy (ks := p.1) (ts := ts) (K := stL G C ((j : Int) + 1)))
      have IST := zUB (zDt G C ((j : Int) + 1))
      generalize stL G C ((j : Int) + 1) = K at *
      obtain ⟨i0, hi0, hz0, hz1, hz2⟩ := info_parts zFJ
      obtain ⟨j0, hj0, hy0, hy1, hy2⟩ := info_parts zFN
      have hml := zAQ p.1 ts
      by_cases h0 : K = []
      ·have NE := zUB (N0.out h0)
       have hz : K.length = 0 := by rw [h0]; rfl
       clear N0 N1 N2 FK FN h0
       go_wp2_with (first
        | (go_at_call 31; refine TP2.out.mono ?_; rintro e w5 ⟨rfl, b5⟩; have H5 := zUB (H.out.went b5); obtain ⟨g0, g1, g2, g3⟩ := H5.out.bx.box)
        | (go_at_call 47; refine (STH.out _ b5).mono ?_; rintro e w6 ⟨Y, ak, ck, rfl, hck, hY, hYA, b6, hnw⟩; obtain rfl : Y = K := hY.uniq IST.out; have H6 := zUB (H5.out.went b6); have U6 := zUB (H5.out.new hck hYA hnw); have RK := zUB hYA; have SV6 := zUB (SV.out.went (Gr.step b5 b6)); have FD := zUB (zEB (mkSt p.1 ts) Y av ak cv ck w6 SV6.out SM.out hYA); clear hck hY hYA hnw))
       go_roundw
       case rel => exact ⟨j + 1, by go_num, by omega, by rw [EP.out, NE.out]; exact H6.out⟩
       case measure => simp [intOf]; omega
      ·have hz : 0 < K.length := List.length_pos_iff.2 h0
       by_cases hin : K ∈ p.1
       ·have NE := zUB (N1.out h0 hin)
        have FE := zUB (FK.out hin)
        clear N0 N1 N2 FK FN h0 hin hshort
        generalize p.1.idxOf K = ix at *
        go_wp2_with (first
         | (go_at_call 31; refine TP2.out.mono ?_; rintro e w5 ⟨rfl, b5⟩; have H5 := zUB (H.out.went b5); obtain ⟨g0, g1, g2, g3⟩ := H5.out.bx.box)
         | (go_at_call 47; refine (STH.out _ b5).mono ?_; rintro e w6 ⟨Y, ak, ck, rfl, hck, hY, hYA, b6, hnw⟩; obtain rfl : Y = K := hY.uniq IST.out; have H6 := zUB (H5.out.went b6); have U6 := zUB (H5.out.new hck hYA hnw); have RK := zUB hYA; have SV6 := zUB (SV.out.went (Gr.step b5 b6)); have FD := zUB (zEB (mkSt p.1 ts) Y av ak cv ck w6 SV6.out SM.out hYA); clear hck hY hYA hnw; have FD2 := zUB (show Calls Tryz.prog 48 #[.slice av p.1.length cv, .slice ak Y.length ck] w6 (Gr.Is (.int .i64 (ix : Int)) w6) from (by have q := FD.out; rw [FE.out, hml] at q; exact q)))
         | (go_at_call 48; refine FD2.out.mono ?_; rintro e w7 ⟨rfl, b7⟩; have H7 := zUB (H6.out.went b7); have U7 := zUB (U6.out.went b7); have w9e : w7 = w7 := rfl; have H9 := H7; have bT := boxed w7 (.cells #[.int .i64 ((j : Int) + 1), .int .i64 (ix : Int)] 104); have H10 := zUB (H9.out.went bT); have T10 := zUB (show World.ownsRow (w7.alloc (.cells #[.int .i64 ((j : Int) + 1), .int .i64 (ix : Int)] 104)) (w.heap.size + 1) 104 2 (.slice a8 p.2.length c8) p.2.length (p.2.flatMap ic) from H10.out.tr); have h9 : w.heap.size + 1 <= w7.heap.size := World.block_lt_of_cell? w7 ⟨w.heap.size, 0, none⟩ H9.out.bx.box.x0; have h10 : w.heap.size + 1 <= (w7.alloc (.cells #[.int .i64 ((j : Int) + 1), .int .i64 (ix : Int)] 104)).heap.size := Nat.le_trans h9 bT.size; have ONT := zUB (zCA 104 (w.heap.size + 1) w7.heap.size ((j : Int) + 1, (ix : Int)) w7 rfl h9); clear bT)
         | (at_builtin; refine zAF _ rfl _ _ 51 rfl (w.heap.size + 1) 104 j0 (.agg #[.int .i64 0, .int .i64 0]) 2 16 Tryz.underlying51 hj0 hy0 hy1 hy2 rfl (by decide) _ _ _ rfl T10.out (w.heap.size + 1) _ 1 (ic ((j : Int) + 1, (ix : Int))) rfl ONT.out (zGl _) (by unfold maxLen; omega) (by omega) h10 ?_; intro v11 w11 hown hg hloc; have H11 := zUB (H10.out.trans hown hg hloc); clear hown hg hloc))
        go_roundw
        case rel => exact ⟨j + 1, by go_num, by omega, by rw [EP.out, NE.out]; exact H11.out⟩
        case measure => simp [intOf]; omega
       ·have NE := zUB (N2.out h0 hin)
        have FE := zUB (FN.out hin)
        clear N0 N1 N2 FK FN h0 hin hshort
        go_wp2_with (first
         | (go_at_call 31; refine TP2.out.mono ?_; rintro e w5 ⟨rfl, b5⟩; have H5 := zUB (H.out.went b5); obtain ⟨g0, g1, g2, g3⟩ := H5.out.bx.box)
         | (go_at_call 47; refine (STH.out _ b5).mono ?_; rintro e w6 ⟨Y, ak, ck, rfl, hck, hY, hYA, b6, hnw⟩; obtain rfl : Y = K := hY.uniq IST.out; have H6 := zUB (H5.out.went b6); have U6 := zUB (H5.out.new hck hYA hnw); have RK := zUB hYA; have SV6 := zUB (SV.out.went (Gr.step b5 b6)); have FD := zUB (zEB (mkSt p.1 ts) Y av ak cv ck w6 SV6.out SM.out hYA); clear hck hY hYA hnw; have FD2 := zUB (show Calls Tryz.prog 48 #[.slice av p.1.length cv, .slice ak Y.length ck] w6 (Gr.Is (.int .i64 (-1)) w6) from (by have q := FD.out; rw [FE.out, hml] at q; exact q)))
         | (go_at_call 48; refine FD2.out.mono ?_; rintro e w7 ⟨rfl, b7⟩; have H7 := zUB (H6.out.went b7); have U7 := zUB (U6.out.went b7); have bS := boxed w7 (.cells #[.slice ak Y.length ck, .slice none 0 0] 53); have H8 := zUB (H7.out.went bS); have U8 := zUB (U7.out.went bS); have h7 : w.heap.size + 1 <= w7.heap.size := World.block_lt_of_cell? w7 ⟨w.heap.size, 0, none⟩ H7.out.bx.box.x0; have h8 : w.heap.size + 1 <= (w7.alloc (.cells #[.slice ak Y.length ck, .slice none 0 0] 53)).heap.size := Nat.le_trans h7 bS.size; have ONS := zUB (zEn 53 (w.heap.size + 1) w7.heap.size (.slice ak Y.length ck) (.slice none 0 0) w7 rfl h7 rfl rfl); obtain ⟨L, eL, rL, lL⟩ := H8.out.sts; have hLl : L.length = p.1.length := (by have q := congrArg List.length eL; rwa [List.length_map, zAQ] at q); have EL := zUB eL; have RL := zUB rL; have LL := zUB lL; clear bS eL rL lL)
         | (at_builtin; refine zAF _ rfl _ _ 46 rfl (w.heap.size + 1) 53 i0 (.agg #[.slice none 0 0, .slice none 0 0]) 2 48 Tryz.underlying46 hi0 hz0 hz1 hz2 rfl (by decide) _ L.length _ rfl RL.out (w.heap.size + 1) _ 1 [.slice ak Y.length ck, .slice none 0 0] rfl ONS.out (by simp [Value.oneCell']) (by unfold maxLen; omega) (by omega) h8 ?_; intro v9 w9 hown hg hloc; have H9 := zUB (H8.out.state (by omega) U8.out EL.out RL.out LL.out hown hg hloc); have bT := boxed w9 (.cells #[.int .i64 ((j : Int) + 1), .int .i64 (p.1.length : Int)] 104); have H10 := zUB (H9.out.went bT); have T10 := zUB (show World.ownsRow (w9.alloc (.cells #[.int .i64 ((j : Int) + 1), .int .i64 (p.1.length : Int)] 104)) (w.heap.size + 1) 104 2 (.slice a8 p.2.length c8) p.2.length (p.2.flatMap ic) from H10.out.tr); have h9 : w.heap.size + 1 <= w9.heap.size := World.block_lt_of_cell? w9 ⟨w.heap.size, 0, none⟩ H9.out.bx.box.x0; have h10 : w.heap.size + 1 <= (w9.alloc (.cells #[.int .i64 ((j : Int) + 1), .int .i64 (p.1.length : Int)] 104)).heap.size := Nat.le_trans h9 bT.size; have ONT := zUB (zCA 104 (w.heap.size + 1) w9.heap.size ((j : Int) + 1, (p.1.length : Int)) w9 rfl h9); clear bT; clear hown hg hloc)
         | (at_builtin; refine zAF _ rfl _ _ 51 rfl (w.heap.size + 1) 104 j0 (.agg #[.int .i64 0, .int .i64 0]) 2 16 Tryz.underlying51 hj0 hy0 hy1 hy2 rfl (by decide) _ _ _ rfl T10.out (w.heap.size + 1) _ 1 (ic ((j : Int) + 1, (p.1.length : Int))) rfl ONT.out (zGl _) (by unfold maxLen; omega) (by omega) h10 ?_; intro v11 w11 hown hg hloc; have H11 := zUB (H10.out.trans hown hg hloc); clear hown hg hloc))
        go_roundw
        case rel => exact ⟨j + 1, by go_num, by omega, by rw [EP.out, NE.out]; exact H11.out⟩
        case measure => simp [intOf]; omega
     ·have hE : j = top G := by omega
      subst hE
      have hge := M0.out (top G)
      rw [Nat.zero_add] at hge
      have hge2 : ks.length <= (zAk G C (top G) (ks, [])).1.length := hge
      have hpl := OL.out (top G)
      clear hge OS SMK TW OL ON M0 ST CL
      generalize zAk G C (top G) (ks, []) = p at *
      obtain ⟨gb, gc, rfl⟩ := H.out.addr (by omega)
      obtain ⟨a8, c8, rfl, hc8⟩ := H.out.tr.shape
      have PUT := zUB (fun w1 (b : Below wr.heap.size wr w1) => (H.out.went b).put (show ts.length < p.1.length by omega))
      rw [htl] at PUT
      rw [RE.out] at NX MY
      have E1 := zUB RE.out
      clear RE
      go_wp2_with (go_at_call 31; refine TP2.out.mono ?_; rintro e w5 ⟨rfl, b5⟩; obtain ⟨P1, ⟨u, P2⟩, P3⟩ := PUT.out w5 b5; have PR := zUB P1; clear P1)
      ·go_ret2
       exact ⟨[], 7, none, 0, rfl, .many hc (MY.out (by (try dsimp only); omega)) (by rw [E1.out]; (try dsimp only); omega), .nil _ _, Nat.le_refl _, PR.out.bx.below⟩
      ·obtain ⟨n1, n2⟩ := NX.out (by (try dsimp only); omega)
       go_roundw
       case rel => exact ⟨m + 1, by go_num, by omega, by rw [E1.out]; exact PR.out, n1, by rw [E1.out]; exact n2⟩
       case measure => simp [intOf]; omega
   ·have hE : zC0 G m /\ ¬ 2000 < (runs G (top G) m).1.length := by
     have h3 := hok.out.le
     exact ⟨hg.stop (.inr (by omega)), by omega⟩
    have DN := zUB (hE.1.done hE.2)
    have SE := zUB (zKn DN.out.all)
    have SL := zUB (zAQ (runs G (top G) m).1 (runs G (top G) m).2)
    have HB := zUB R.out.bx.below
    have HS := zUB hS5
    clear hS5
    go_wp2_with fail
    go_ret2
    exact ⟨states (runs G (top G) m), 0, a5, c5, by rw [← SE.out, SL.out]; rfl, .all hc hE.1 hE.2, SE.out ▸ HS.out, by rw [← SE.out, SL.out]; exact hc5, HB.out⟩
 ·have hcb : (checkN G != 0) = true := by simpa using hc
  clear k
  unfold gv at C0 ⊢
  go_enter Tryz.func18, Tryz.ntmps18
  go_wp2_with (go_at_call 30; refine (C0.out _ X.out.below).mono ?_; rintro e w1 ⟨rfl, hb⟩; have X1 := zUB (X.out.went hb); clear hb)
  go_ret2
  exact ⟨[], checkN G, none, 0, rfl, .bad hc, .nil _ _, Nat.le_refl _, X1.out.below⟩
