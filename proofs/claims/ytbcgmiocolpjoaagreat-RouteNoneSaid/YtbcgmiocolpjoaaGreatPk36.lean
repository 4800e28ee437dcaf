/- A part of the proof. -/
import Derived.Test.YtbcgmiocolpjoaaGreatPk35
import Derived.Test.YtbcgmiocolpjoaaGreatPk31
set_option maxHeartbeats 8000000
set_option maxRecDepth 100000
set_option linter.unusedVariables false
namespace Go.Proofs.YtbcgmiocolpjoaaGreat
open Go.RowKit Go.Maps
namespace Au
open Gr (Gram Sh Bx checkN top boxed)
open Im
theorem zER (G : Gram) (ks : List (List Itm)) (c : List Itm) (n : Nat) : (zAU G ks c n).length <= n := by
 unfold zAU
 exact Nat.le_trans (List.length_filterMap_le _ _) (by rw [List.length_range]; exact Nat.le_refl _)
theorem zLG {G : Gram} {c : List Itm} {ks : List (List Itm)} (h : ks.Nodup) (n : Nat) : (zAV G c n (ks, [])).2.length <= n := by
 rw [(zCI (G := G) (c := c) h n).trans]
 exact zER _ _ _ _
theorem zD0 {G : Gram} (hv : checkN G = 0) {q : Whole} (h : WholeOk G (top G) q) (c : List Itm) (n : Nat) : (zAV G c n (q.1, [])).1.Nodup /\ ∀ x ∈ (zAV G c n (q.1, [])).1, x.length <= 2709 := by
 have H := zCI (G := G) (c := c) h.nodup n
 refine ⟨H.nodup, fun x hx => ?_⟩
 obtain ⟨more, e, hm⟩ := H.front
 rw [e] at hx
 rcases List.mem_append.1 hx with k | k
 ·exact Nat.le_trans (zBt (h.good x k).2.1 (h.good x k).2.2) (zAZ hv)
 ·obtain ⟨i, _, h1, _⟩ := hm x k
  rw [h1]
  exact (zMd hv c _).2
theorem zGc {G : Gram} {q : Whole} (h : WholeOk G (top G) q) : ∀ t ∈ q.2, t.length <= top G := fun t ht => by
 obtain ⟨i, hi, rfl⟩ := List.mem_iff_getElem.1 ht
 have := h.trans i hi
 rw [List.getD_eq_getElem?_getD, List.getElem?_eq_getElem hi] at this
 rw [show q.2[i] = zAU G q.1 (clL G (zAI q.1 i)) (top G) from this]
 exact zER _ _ _ _
theorem zHs {G : Gram} (hv : checkN G = 0) {q : Whole} (h : WholeOk G (top G) q) (c : List Itm) (n : Nat) (hn : n <= top G) (hl : q.1.length <= 2000) : Small (mkSt (zAV G c n (q.1, [])).1 q.2) := by
 have h1 := zCQ G c q.1 n
 have h2 := zBK hv
 exact zMB (by omega) (fun k hk => Nat.le_trans ((zD0 hv h c n).2 k hk) (by omega)) fun t ht => Nat.le_trans (zGc h t ht) (by omega)
theorem RbH.addr {TS TT : TypeId} {W : World} {h : Sh} {G : Gram} {ts : List (List (Int × Int))} {C : List Itm} {cv : Value} {p : Half} {v5 v8 : Value} {w : World} (k : RbH TS TT W h G ts C cv p v5 v8 w) (h0 : 0 < p.1.length) : ∃ g c, v5 = .slice (some ⟨g, 0, none⟩) p.1.length c := by
 obtain ⟨L, e, r, l⟩ := k.sts
 have hl : L.length = p.1.length := by
  have := congrArg List.length e
  rwa [List.length_map, zAM] at this
 rcases r.2 with ⟨_, q⟩ | ⟨g, cap, cur, q, _⟩
 ·omega
 ·exact ⟨g, cap, by rw [q, hl]⟩
theorem RbH.own5 {TS TT : TypeId} {W : World} {h : Sh} {G : Gram} {ts : List (List (Int × Int))} {C : List Itm} {cv : Value} {p : Half} {v5 v8 : Value} {w : World} (k : RbH TS TT W h G ts C cv p v5 v8 w) : ∀ g, v5.ownBlock = some g -> g < w.heap.size := fun g hg => by
 obtain ⟨L, e, r, l⟩ := k.sts
 exact (r.lt g hg).2
theorem RbH.own8 {TS TT : TypeId} {W : World} {h : Sh} {G : Gram} {ts : List (List (Int × Int))} {C : List Itm} {cv : Value} {p : Half} {v5 v8 : Value} {w : World} (k : RbH TS TT W h G ts C cv p v5 v8 w) : ∀ g, v8.ownBlock = some g -> g < w.heap.size := fun g hg => (World.ownsRow.lt k.tr g hg).2
theorem RbH.new {TS TT : TypeId} {W : World} {h : Sh} {G : Gram} {ts : List (List (Int × Int))} {C : List Itm} {cv : Value} {p : Half} {v5 v8 : Value} {w w' : World} (k : RbH TS TT W h G ts C cv p v5 v8 w) {K : List Itm} {a : Option Addr} {c : Nat} (hc : K.length <= c) (hK : ItsA a K w') (hn : Nw w a) : L2 K (.slice a K.length c) v5 v8 w' :=
 ⟨a, c, rfl, hc, hK, fun _ b o e => by
  have h1 := hn b o e
  exact ⟨fun q => by have := k.own5 b q; omega, fun q => by have := k.own8 b q; omega⟩⟩
theorem zLx {TS : TypeId} {w w3 : World} {h : Sh} {G : Gram} {Y : List Itm} {a : Option Addr} {c : Nat} (bx : Bx w h G w3) (e : Y = [((G.rules.length : Int), 0)]) (hc : Y.length <= c) (hY : ItsA a Y w3) :
  RbR TS w h G (runs G (top G) 0) (.slice (some ⟨w3.heap.size, 0, none⟩) 1 1) (w3.alloc (.cells #[.slice a Y.length c, .slice none 0 0] TS)) := by
 have hb := boxed w3 (.cells #[.slice a Y.length c, .slice none 0 0] TS)
 have hlt : w.heap.size < w3.heap.size := World.block_lt_of_cell? w3 ⟨w.heap.size, 0, none⟩ bx.box.x0
 refine ⟨bx.went hb, [((Y, []), (.slice a Y.length c, .slice none 0 0))], ?_, ?_, fun x hx => ?_⟩
 ·subst e
  rfl
 ·exact zDX TS (w.heap.size + 1) w3.heap.size (.slice a Y.length c) (.slice none 0 0) w3 rfl (by omega) rfl rfl
 ·rw [List.mem_singleton] at hx
  subst hx
  refine ⟨⟨a, c, rfl, hc, hY.went hb, fun hn b o q q2 => ?_⟩, LOk.nil _ _⟩
  have := zCK hY hn q
  have h2 : some w3.heap.size = some b := q2
  injection h2 with h2
  omega
end Au
namespace Au
open Gr (Gram Sh gv GAt Bx checkN top boxed drawn cell_later)
open Im
open Rw (zAF)
theorem zEG (h : Sh) (G : Gram) (w : World) (k : GAt h G w) :
  Calls Tryz.prog 19 #[gv h G] w (zFA G w) := by
 have C0 := zPB (fun w1 (b : Below w.heap.size w w1) => Gr.zEH h G w1 (k.went b))
 have X := zPB (Bx.start h G w 25)
 by_cases hc : checkN G = 0
 ·have BG := zPB (fun w1 (b : Below w.heap.size w w1) => zIF h G w1 (k.went b))
  have TP := zPB (fun w1 (b : Below w.heap.size w w1) => Gr.zE2 h G w1 (k.went b))
  have hrl : G.rules.length <= 65536 := by
   have := (zCN (Gr.zAk hc).1).1
   omega
  have CL := zPB (fun w1 (b : Below w.heap.size w w1) (L : List Itm) (a : Option Addr) (c : Nat) (kl : ItsA a L w1) (hL : L.length <= 10000) => zIG h G hc L a c w1 (k.went b) kl hL hrl)
  have ST := zPB (fun w1 (b : Below w.heap.size w w1) (L : List Itm) (a : Option Addr) (c : Nat) (s : Int) (kl : ItsA a L w1) (hL : L.length <= 10000) => zKK h G hc L a c s w1 (k.went b) kl hL)
  have ht := zBK hc
  rw [hc] at C0
  clear k
  unfold gv at *
  go_enter Tryz.func19, Tryz.ntmps19
  go_wp2_with (first
   | (go_at_call 30; refine (C0.out _ X.out.below).mono ?_; rintro e w1 ⟨rfl, hb⟩; have X1 := zPB (X.out.went hb); obtain ⟨g0, g1, g2, g3⟩ := X1.out.box; clear hb)
   | (go_at_call 31; refine (BG.out _ X1.out.below).mono ?_; rintro e w3 ⟨Y, a3, c3, rfl, y1, y2, y3⟩; have HY := zPB (show Y = [((G.rules.length : Int), 0)] from y1.uniq ⟨zCo _, fun x => List.mem_singleton⟩); have X3 := zPB (X1.out.went y3); have SC := zPB (ItsV.shape y2); have IY := zPB (ItsV.reads y2); clear y1 y2 y3 g0 g1 g2 g3))
  have hcap : Y.length <= c3 := by
   obtain ⟨a', c', e, hc'⟩ := SC.out
   simp only [Value.slice.injEq] at e
   rw [e.2.2]
   exact hc'
  have R0 := zPB (zLx (TS := 53) X3.out HY.out hcap IY.out)
  clear C0 BG X X1 SC IY HY hcap
  go_loopw [5, 6, 7, 8, 9, 10, 11] (fun v i _ _ _ _ _ wr => ∃ m : Nat, i = .int .i64 m /\ m <= 2000 /\ RbR 53 w h G (runs G (top G) m) v wr /\ zDe G m /\ (runs G (top G) m).1.length <= 2000) (fun _ i _ _ _ _ _ _ => 2001 - (intOf i).toNat)
  case atStart => exact ⟨0, rfl, Nat.zero_le _, R0.out, zDz G, by simp [runs]⟩
  case round =>
   obtain ⟨m, rfl, hm, hR, hg, hfew⟩ := hrel
   have R := zPB hR
   clear hR R0
   have hok := zPB (zCn G (top G) m)
   have hgl := hg.len
   obtain ⟨a5, c5, rfl, hc5, hS5⟩ := R.out.at
   by_cases hlt : m < (runs G (top G) m).1.length
   ·have NX := zPB (fun (hs : ¬ 2000 < (runs G (top G) (m + 1)).1.length) => (show zDe G (m + 1) /\ (runs G (top G) (m + 1)).1.length <= 2000 from ⟨hg.next (by unfold Stop; omega), by omega⟩))
    have MY := zPB (fun (hs : 2000 < (runs G (top G) (m + 1)).1.length) => (hg.next (show ¬ Stop (runs G (top G) m) from by unfold Stop; omega)).stop (.inl hs))
    have RD := zPB (hg.round hlt)
    have hst := zAd hlt
    have hgood := hok.out.good _ (zBX hlt)
    obtain ⟨b0, o0, a1, c1, a2, c2, ea, z1, z2, i1, i2, l1, l2⟩ := hS5 m (by rw [zAM]; exact hlt)
    rw [zA4 _ hlt, ← hst] at z1 i1 l1
    dsimp only at z1 i1 l1
    subst ea
    have hKl : (zAI (runs G (top G) m).1 m).length <= 10000 := Nat.le_trans (zBt hgood.2.1 hgood.2.2) (Nat.le_trans (zAZ hc) (by omega))
    have CI := zPB (fun w1 (b : Below wr.heap.size wr w1) => CL.out w1 (R.out.bx.went b).below _ a1 c1 (i1.went b) hKl)
    have HQ := zPB (fun w' (b : Below wr.heap.size wr w') => (show w'.cell? ⟨w.heap.size, 0, none⟩ = _ /\ w'.cell? ⟨w.heap.size, 1, none⟩ = _ /\ w'.cell? ⟨w.heap.size, 2, none⟩ = _ /\ w'.cell? ⟨w.heap.size, 3, none⟩ = _ /\ w'.cell? ⟨b0, o0 + m * 2, none⟩ = some (.slice a1 (zAI (runs G (top G) m).1 m).length c1) from ⟨(R.out.bx.went b).box.x0, (R.out.bx.went b).box.x1, (R.out.bx.went b).box.x2, (R.out.bx.went b).box.x3, cell_later b z1⟩))
    have kA := drawn wr
    have TL := zPB (hgl)
    clear z1 z2 i1 i2 l1 l2 hS5 hst hgood hgl hKl
    generalize hKm : zAI (runs G (top G) m).1 m = Km at *
    clear hKm
    go_wp2_with fail
    go_region_held3 (fun w' => w'.cell? ⟨w.heap.size, 0, none⟩ = some (.slice h.a1 G.terms.length h.c1) /\ w'.cell? ⟨w.heap.size, 1, none⟩ = some (.slice h.a2 G.nons.length h.c2) /\ w'.cell? ⟨w.heap.size, 2, none⟩ = some (.slice h.a3 G.rules.length h.c3) /\ w'.cell? ⟨w.heap.size, 3, none⟩ = some (.int .i64 G.start) /\ w'.cell? ⟨b0, o0 + m * 2, none⟩ = some (.slice a1 Km.length c1))
     (exact HQ.out _ (by assumption))
     (first
      | (go_at_call 32; refine (CI.out _ kA).mono ?_; rintro e w4 ⟨C, a6, c6, rfl, hcc, hC, hCA, hb, hnw⟩; have HC := zPB (hC.uniq (zFW G Km)); have k4 : Below wr.heap.size wr w4 := Gr.step kA hb; have H0 := zPB (RbR.begin (TT := 55) R.out k4 hcc hCA hnw); clear hb hC hCA hnw)
      | fail)
    have hCl : C.length <= 10000 := by
     rw [HC.out]
     exact Nat.le_trans (zBt (zFW G Km).1 fun x hx => zBD (((zFW G Km).2 x).1 hx)) (Nat.le_trans (zAZ hc) (by omega))
    clear HQ CI kA R k4
    have OS := zPB (fun n => zD0 hc hok.out C n)
    have SMK := zPB (fun n hn => zHs hc hok.out C n hn hfew)
    have TW := zPB (fun n => zLG (G := G) (c := C) hok.out.nodup n)
    have OL := zPB (fun n => zCQ G C (runs G (top G) m).1 n)
    have ON := zPB (fun n => zA9 G C n ((runs G (top G) m).1, []))
    have RE := zPB (show runs G (top G) (m + 1) = ((zAV G C (top G) ((runs G (top G) m).1, [])).1, (runs G (top G) m).2 ++ [(zAV G C (top G) ((runs G (top G) m).1, [])).2]) from by rw [HC.out]; exact RD.out)
    have M0 := zPB (fun n => zFS G C ((runs G (top G) m).1, []) 0 n)
    have htl := TL.out
    clear RD HC hok
    generalize hts : (runs G (top G) m).2 = ts at *
    generalize hks : (runs G (top G) m).1 = ks at *
    clear hts hks
    go_wp2_with fail
    go_loopw [5, 8, 9, 10, 11] (fun v5 v8 s _ _ wx => ∃ j : Nat, s = .int .i64 ((j : Int) + 1) /\ j <= top G /\ RbH 53 55 w h G ts C (.slice a6 C.length c6) (zAV G C j (ks, [])) v5 v8 wx) (fun _ _ s _ _ _ => top G + 2 - (intOf s).toNat)
    case atStart => exact ⟨0, rfl, Nat.zero_le _, H0.out⟩
    case round =>
     obtain ⟨j, rfl, hj, hH⟩ := hrel
     have H := zPB hH
     clear hH H0
     obtain ⟨g0, g1, g2, g3⟩ := H.out.bx.box
     have TP2 := zPB (TP.out wr H.out.bx.below)
     by_cases hlt : j < top G
     ·obtain ⟨av, cv, rfl, hcv, hSv⟩ := H.out.at
      have SV := zPB hSv
      obtain ⟨a8, c8, rfl, hc8⟩ := H.out.tr.shape
      have hp2 := TW.out j
      have hp1 := OL.out j
      have hshort := (OS.out j).1
      have SM := zPB (SMK.out j (by omega))
      have hge := M0.out j
      rw [Nat.zero_add] at hge
      have hge2 : ks.length <= (zAV G C j (ks, [])).1.length := hge
      have es : ((j + 1 : Nat) : Int) = (j : Int) + 1 := by omega
      have N0 := zPB (fun (h0 : stL G C ((j : Int) + 1) = []) => (show zAV G C (j + 1) (ks, []) = zAV G C j (ks, []) from by rw [ON.out, zDN (by rw [es]; exact h0)]))
      have N1 := zPB (fun (h0 : stL G C ((j : Int) + 1) ≠ []) (h1 : stL G C ((j : Int) + 1) ∈ (zAV G C j (ks, [])).1) => (show zAV G C (j + 1) (ks, []) = _ from by rw [ON.out, zHB (by rw [es]; exact h0) (by rw [es]; exact h1), es]))
      have N2 := zPB (fun (h0 : stL G C ((j : Int) + 1) ≠ []) (h1 : stL G C ((j : Int) + 1) ∉ (zAV G C j (ks, [])).1) => (show zAV G C (j + 1) (ks, []) = _ from by rw [ON.out, zHA (by rw [es]; exact h0) (by rw [es]; exact h1), es]))
      clear hge es OS TW OL SMK hSv
      obtain ⟨p', hp'⟩ : ∃ p', zAV G C (j + 1) (ks, []) = p' := ⟨_, rfl⟩
      have EP := zPB hp'
      rw [hp'] at N0 N1 N2
      clear hp'
      have STH := zPB (fun w1 (b : Below wr.heap.size wr w1) => ST.out w1 (H.out.bx.went b).below C a6 c6 ((j : Int) + 1) (by
       obtain ⟨a, c, e, _, h3, _⟩ := (H.out.went b).clo
       simp only [Value.slice.injEq] at e
       rw [e.1]
       exact h3) hCl)
      generalize zAV G C j (ks, []) = p at *
      have FK := zPB (zM3 (ts := ts) (K := stL G C ((j : Int) + 1)) hshort)
      have FN := zPB (zM4 (ks := p.1) (ts := ts) (K := stL G C ((j : Int) + 1)))
      have IST := zPB (zEm G C ((j : Int) + 1))
      generalize stL G C ((j : Int) + 1) = K at *
      obtain ⟨i0, hi0, hz0, hz1, hz2⟩ := info_parts zD4
      obtain ⟨j0, hj0, hy0, hy1, hy2⟩ := info_parts zD5
      have hml := zAM p.1 ts
      by_cases h0 : K = []
      ·have NE := zPB (N0.out h0)
       have hz : K.length = 0 := by rw [h0]; rfl
       clear N0 N1 N2 FK FN h0
       go_wp2_with (first
        | (go_at_call 33; refine TP2.out.mono ?_; rintro e w5 ⟨rfl, b5⟩; have H5 := zPB (H.out.went b5); obtain ⟨g0, g1, g2, g3⟩ := H5.out.bx.box)
        | (go_at_call 34; refine (STH.out _ b5).mono ?_; rintro e w6 ⟨Y, ak, ck, rfl, hck, hY, hYA, b6, hnw⟩; obtain rfl : Y = K := hY.uniq IST.out; have H6 := zPB (H5.out.went b6); have U6 := zPB (H5.out.new hck hYA hnw); have RK := zPB hYA; have SV6 := zPB (SV.out.went (Gr.step b5 b6)); have FD := zPB (zDR (mkSt p.1 ts) Y av ak cv ck w6 SV6.out SM.out hYA); clear hck hY hYA hnw))
       go_roundw
       case rel => exact ⟨j + 1, by go_num, by omega, by rw [EP.out, NE.out]; exact H6.out⟩
       case measure => simp [intOf]; omega
      ·have hz : 0 < K.length := List.length_pos_iff.2 h0
       by_cases hin : K ∈ p.1
       ·have NE := zPB (N1.out h0 hin)
        have FE := zPB (FK.out hin)
        clear N0 N1 N2 FK FN h0 hin hshort
        generalize p.1.idxOf K = ix at *
        go_wp2_with (first
         | (go_at_call 33; refine TP2.out.mono ?_; rintro e w5 ⟨rfl, b5⟩; have H5 := zPB (H.out.went b5); obtain ⟨g0, g1, g2, g3⟩ := H5.out.bx.box)
         | (go_at_call 34; refine (STH.out _ b5).mono ?_; rintro e w6 ⟨Y, ak, ck, rfl, hck, hY, hYA, b6, hnw⟩; obtain rfl : Y = K := hY.uniq IST.out; have H6 := zPB (H5.out.went b6); have U6 := zPB (H5.out.new hck hYA hnw); have RK := zPB hYA; have SV6 := zPB (SV.out.went (Gr.step b5 b6)); have FD := zPB (zDR (mkSt p.1 ts) Y av ak cv ck w6 SV6.out SM.out hYA); clear hck hY hYA hnw; have FD2 := zPB (show Calls Tryz.prog 35 #[.slice av p.1.length cv, .slice ak Y.length ck] w6 (Gr.Is (.int .i64 (ix : Int)) w6) from (by have q := FD.out; rw [FE.out, hml] at q; exact q)))
         | (go_at_call 35; refine FD2.out.mono ?_; rintro e w7 ⟨rfl, b7⟩; have H7 := zPB (H6.out.went b7); have U7 := zPB (U6.out.went b7); have w9e : w7 = w7 := rfl; have H9 := H7; have bT := boxed w7 (.cells #[.int .i64 ((j : Int) + 1), .int .i64 (ix : Int)] 55); have H10 := zPB (H9.out.went bT); have T10 := zPB (show World.ownsRow (w7.alloc (.cells #[.int .i64 ((j : Int) + 1), .int .i64 (ix : Int)] 55)) (w.heap.size + 1) 55 2 (.slice a8 p.2.length c8) p.2.length (p.2.flatMap ic) from H10.out.tr); have h9 : w.heap.size + 1 <= w7.heap.size := World.block_lt_of_cell? w7 ⟨w.heap.size, 0, none⟩ H9.out.bx.box.x0; have h10 : w.heap.size + 1 <= (w7.alloc (.cells #[.int .i64 ((j : Int) + 1), .int .i64 (ix : Int)] 55)).heap.size := Nat.le_trans h9 bT.size; have ONT := zPB (zBy 55 (w.heap.size + 1) w7.heap.size ((j : Int) + 1, (ix : Int)) w7 rfl h9); clear bT)
         | (at_builtin; refine zAF _ rfl _ _ 51 rfl (w.heap.size + 1) 55 j0 (.agg #[.int .i64 0, .int .i64 0]) 2 16 Tryz.underlying51 hj0 hy0 hy1 hy2 rfl (by decide) _ _ _ rfl T10.out (w.heap.size + 1) _ 1 (ic ((j : Int) + 1, (ix : Int))) rfl ONT.out (zGo _) (by unfold maxLen; omega) (by omega) h10 ?_; intro v11 w11 hown hg hloc; have H11 := zPB (H10.out.trans hown hg hloc); clear hown hg hloc))
        go_roundw
        case rel => exact ⟨j + 1, by go_num, by omega, by rw [EP.out, NE.out]; exact H11.out⟩
        case measure => simp [intOf]; omega
       ·have NE := zPB (N2.out h0 hin)
        have FE := zPB (FN.out hin)
        clear N0 N1 N2 FK FN h0 hin hshort
        go_wp2_with (first
         | (go_at_call 33; refine TP2.out.mono ?_; rintro e w5 ⟨rfl, b5⟩; have H5 := zPB (H.out.went b5); obtain ⟨g0, g1, g2, g3⟩ := H5.out.bx.box)
         | (go_at_call 34; refine (STH.out _ b5).mono ?_; rintro e w6 ⟨Y, ak, ck, rfl, hck, hY, hYA, b6, hnw⟩; obtain rfl : Y = K := hY.uniq IST.out; have H6 := zPB (H5.out.went b6); have U6 := zPB (H5.out.new hck hYA hnw); have RK := zPB hYA; have SV6 := zPB (SV.out.went (Gr.step b5 b6)); have FD := zPB (zDR (mkSt p.1 ts) Y av ak cv ck w6 SV6.out SM.out hYA); clear hck hY hYA hnw; have FD2 := zPB (show Calls Tryz.prog 35 #[.slice av p.1.length cv, .slice ak Y.length ck] w6 (Gr.Is (.int .i64 (-1)) w6) from (by have q := FD.out; rw [FE.out, hml] at q; exact q)))
         | (go_at_call 35; refine FD2.out.mono ?_; rintro e w7 ⟨rfl, b7⟩; have H7 := zPB (H6.out.went b7); have U7 := zPB (U6.out.went b7); have bS := boxed w7 (.cells #[.slice ak Y.length ck, .slice none 0 0] 53); have H8 := zPB (H7.out.went bS); have U8 := zPB (U7.out.went bS); have h7 : w.heap.size + 1 <= w7.heap.size := World.block_lt_of_cell? w7 ⟨w.heap.size, 0, none⟩ H7.out.bx.box.x0; have h8 : w.heap.size + 1 <= (w7.alloc (.cells #[.slice ak Y.length ck, .slice none 0 0] 53)).heap.size := Nat.le_trans h7 bS.size; have ONS := zPB (zDX 53 (w.heap.size + 1) w7.heap.size (.slice ak Y.length ck) (.slice none 0 0) w7 rfl h7 rfl rfl); obtain ⟨L, eL, rL, lL⟩ := H8.out.sts; have hLl : L.length = p.1.length := (by have q := congrArg List.length eL; rwa [List.length_map, zAM] at q); have EL := zPB eL; have RL := zPB rL; have LL := zPB lL; clear bS eL rL lL)
         | (at_builtin; refine zAF _ rfl _ _ 46 rfl (w.heap.size + 1) 53 i0 (.agg #[.slice none 0 0, .slice none 0 0]) 2 48 Tryz.underlying46 hi0 hz0 hz1 hz2 rfl (by decide) _ L.length _ rfl RL.out (w.heap.size + 1) _ 1 [.slice ak Y.length ck, .slice none 0 0] rfl ONS.out (by simp [Value.oneCell']) (by unfold maxLen; omega) (by omega) h8 ?_; intro v9 w9 hown hg hloc; have H9 := zPB (H8.out.state (by omega) U8.out EL.out RL.out LL.out hown hg hloc); have bT := boxed w9 (.cells #[.int .i64 ((j : Int) + 1), .int .i64 (p.1.length : Int)] 55); have H10 := zPB (H9.out.went bT); have T10 := zPB (show World.ownsRow (w9.alloc (.cells #[.int .i64 ((j : Int) + 1), .int .i64 (p.1.length : Int)] 55)) (w.heap.size + 1) 55 2 (.slice a8 p.2.length c8) p.2.length (p.2.flatMap ic) from H10.out.tr); have h9 : w.heap.size + 1 <= w9.heap.size := World.block_lt_of_cell? w9 ⟨w.heap.size, 0, none⟩ H9.out.bx.box.x0; have h10 : w.heap.size + 1 <= (w9.alloc (.cells #[.int .i64 ((j : Int) + 1), .int .i64 (p.1.length : Int)] 55)).heap.size := Nat.le_trans h9 bT.size; have ONT := zPB (zBy 55 (w.heap.size + 1) w9.heap.size ((j : Int) + 1, (p.1.length : Int)) w9 rfl h9); clear bT; clear hown hg hloc)
         | (at_builtin; refine zAF _ rfl _ _ 51 rfl (w.heap.size + 1) 55 j0 (.agg #[.int .i64 0, .int .i64 0]) 2 16 Tryz.underlying51 hj0 hy0 hy1 hy2 rfl (by decide) _ _ _ rfl T10.out (w.heap.size + 1) _ 1 (ic ((j : Int) + 1, (p.1.length : Int))) rfl ONT.out (zGo _) (by unfold maxLen; omega) (by omega) h10 ?_; intro v11 w11 hown hg hloc; have H11 := zPB (H10.out.trans hown hg hloc); clear hown hg hloc))
        go_roundw
        case rel => exact ⟨j + 1, by go_num, by omega, by rw [EP.out, NE.out]; exact H11.out⟩
        case measure => simp [intOf]; omega
     ·have hE : j = top G := by omega
      subst hE
      have hge := M0.out (top G)
      rw [Nat.zero_add] at hge
      have hge2 : ks.length <= (zAV G C (top G) (ks, [])).1.length := hge
      have hpl := OL.out (top G)
      clear hge OS SMK TW OL ON M0 ST CL
      generalize zAV G C (top G) (ks, []) = p at *
      obtain ⟨gb, gc, rfl⟩ := H.out.addr (by omega)
      obtain ⟨a8, c8, rfl, hc8⟩ := H.out.tr.shape
      have PUT := zPB (fun w1 (b : Below wr.heap.size wr w1) => (H.out.went b).put (show ts.length < p.1.length by omega))
      rw [htl] at PUT
      rw [RE.out] at NX MY
      have E1 := zPB RE.out
      clear RE
      go_wp2_with (go_at_call 33; refine TP2.out.mono ?_; rintro e w5 ⟨rfl, b5⟩; obtain ⟨P1, ⟨u, P2⟩, P3⟩ := PUT.out w5 b5; have PR := zPB P1; clear P1)
      ·go_ret2
       exact ⟨[], 7, none, 0, rfl, .many hc (MY.out (by (try dsimp only); omega)) (by rw [E1.out]; (try dsimp only); omega), .nil _ _, Nat.le_refl _, PR.out.bx.below⟩
      ·obtain ⟨n1, n2⟩ := NX.out (by (try dsimp only); omega)
       go_roundw
       case rel => exact ⟨m + 1, by go_num, by omega, by rw [E1.out]; exact PR.out, n1, by rw [E1.out]; exact n2⟩
       case measure => simp [intOf]; omega
   ·have hE : zCE G m /\ ¬ 2000 < (runs G (top G) m).1.length := by
     have h3 := hok.out.le
     exact ⟨hg.stop (.inr (by omega)), by omega⟩
    have DN := zPB (hE.1.done hE.2)
    have SE := zPB (zJk DN.out.all)
    have SL := zPB (zAM (runs G (top G) m).1 (runs G (top G) m).2)
    have HB := zPB R.out.bx.below
    have HS := zPB hS5
    clear hS5
    go_wp2_with fail
    go_ret2
    exact ⟨states (runs G (top G) m), 0, a5, c5, by rw [← SE.out, SL.out]; rfl, .all hc hE.1 hE.2, SE.out ▸ HS.out, by rw [← SE.out, SL.out]; exact hc5, HB.out⟩
 ·have hcb : (checkN G != 0) = true := by simpa using hc
  clear k
  unfold gv at C0 ⊢
  go_enter Tryz.func19, Tryz.ntmps19
  go_wp2_with (go_at_call 30; refine (C0.out _ X.out.below).mono ?_; rintro e w1 ⟨rfl, hb⟩; have X1 := zPB (X.out.went hb); clear hb)
  go_ret2
  exact ⟨[], checkN G, none, 0, rfl, .bad hc, .nil _ _, Nat.le_refl _, X1.out.below⟩
