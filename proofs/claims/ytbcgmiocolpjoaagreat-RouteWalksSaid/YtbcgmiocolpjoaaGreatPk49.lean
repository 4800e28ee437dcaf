/- A part of the proof. -/
import Derived.Test.YtbcgmiocolpjoaaGreatPk36
import Derived.Test.YtbcgmiocolpjoaaGreatPk44
set_option maxHeartbeats 8000000
set_option maxRecDepth 100000
set_option linter.unusedVariables false
namespace Go.Proofs.YtbcgmiocolpjoaaGreat
namespace Ro
open Go.RowKit Go.Maps
open Gr (Gram Sh gv GAt Bx cell_later zC3 top)
open Im
open Au
theorem zKn (h : Sh) (G : Gram) (w : World) (k : GAt h G w) :
  Calls Tryz.prog 4 #[gv h G] w (Gr.Is (.bool true) w) := by
 have X0 := zPB (Bx.start h G w 25)
 have MU := zPB (fun w1 (b : Below w.heap.size w w1) => zC3 h G w1 (k.went b))
 have BU := zPB (fun w1 (b : Below w.heap.size w w1) => zEG h G w1 (k.went b))
 have OF := zPB (fun w1 (b : Below w.heap.size w w1) => zCP h G w1 (k.went b))
 have AW := zPB (fun w1 => zC7 w1)
 clear k
 obtain ⟨x0, x1, x2, x3⟩ := X0.out.box
 unfold gv at *
 go_enter Tryz.func4, Tryz.ntmps4
 go_wp2_with fail
 refine (MU.out _ X0.out.below).mono ?_
 rintro e w1 ⟨n, rfl, hn, hb⟩
 have X1 := zPB (X0.out.went hb)
 clear hb MU hn x0 x1 x2 x3 X0
 obtain ⟨x0, x1, x2, x3⟩ := X1.out.box
 by_cases hn9 : 60 < n
 ·go_wp2_with (go_at_call 7; refine (AW.out _).mono ?_; rintro e w2 ⟨rfl, hb⟩; have HB := zPB (Gr.step X1.out.below hb); clear hb)
  go_ret
  exact ⟨rfl, HB.out⟩
 go_wp2_with fail
 refine (BU.out _ X1.out.below).mono ?_
 rintro e w2 ⟨X, er, aX, cX, rfl, hB, hS, hle, hb⟩
 have X2 := zPB (X1.out.went hb)
 clear hb x0 x1 x2 x3 X1 BU hn9
 obtain ⟨x0, x1, x2, x3⟩ := X2.out.box
 go_wp2_with fail
 refine (OF.out _ X2.out.below).mono ?_
 rintro e w3 ho
 rcases ho with ⟨er2, h0, h1, rfl, hb⟩ | ⟨q, p, bE, E, v, hv, D, hlen, hB2, rfl, hr, hb⟩
 ·obtain ⟨rfl, rfl⟩ := hB.uniq h1
  have X3 := zPB (X2.out.went hb)
  have LN := zPB (fun w1 => len_nil w1)
  clear hb x0 x1 x2 x3 X2 OF hS hle hB h1
  go_wp2_with (go_at_call 10; refine (LN.out _).mono ?_; rintro e w4 ⟨rfl, hb⟩; have X4 := zPB (X3.out.went hb); clear hb)
  go_loopw [7] (fun v wr => v = .int .i64 0 /\ Below w4.heap.size w4 wr) (fun _ _ => 0)
  case atStart => exact ⟨rfl, .refl _ _⟩
  case round =>
   obtain ⟨rfl, hB5⟩ := hrel
   have X5 := zPB (X4.out.went hB5)
   clear hB5
   go_wp2_with (go_at_call 7; refine (AW.out _).mono ?_; rintro e w6 ⟨rfl, hb⟩; have HB := zPB (Gr.step X5.out.below hb); clear hb)
   go_ret
   exact ⟨rfl, HB.out⟩
 ·obtain ⟨rfl, rfl⟩ := hB.uniq hB2
  have X3 := zPB (X2.out.went hb)
  have R3 := zPB hr
  have SM := zPB (zOK hB2).small
  have S3 := zPB (hS.went hb)
  have hsl : (states q).length = q.1.length := zAg D.all
  have LN := zPB (fun w1 (b : Below w3.heap.size w3 w1) => zEr G q p bE E v w1 (R3.out.went b))
  have WY := zPB (fun (i : Int) w1 (b : Below w3.heap.size w3 w1) => zE7 G q hlen p bE E v i w1 (R3.out.went b))
  have WK := zPB (fun (L : List Int) al cl w1 (b : Below w3.heap.size w3 w1) hL (hl : L.length <= 1000000) => zKM (states q) aX cX 0 L al cl w1 (S3.out.went b) SM.out hL hl)
  rw [hsl] at WK
  rw [hsl]
  clear hb x0 x1 x2 x3 X2 OF hS hle hB hr
  go_wp2_with (go_at_call 10; refine (LN.out _ (.refl _ _)).mono ?_; rintro e w4 ⟨rfl, hb⟩; have B4 := zPB hb; clear hb)
  go_loopw [7] (fun v wr => ∃ i : Nat, v = .int .i64 (i : Int) /\ i <= q.1.length /\ Below w4.heap.size w4 wr) (fun v _ => q.1.length - (intOf v).toNat)
  case atStart => exact ⟨0, rfl, Nat.zero_le _, .refl _ _⟩
  case round =>
   obtain ⟨i, rfl, hi, hB5⟩ := hrel
   have B5 := zPB (Gr.step B4.out hB5)
   have C5 := zPB hB5
   clear hB5
   by_cases hlt : i < q.1.length
   ·have hil : (i : Int) < (q.1.length : Int) := by omega
    go_wp2_with fail
    refine (WY.out (i : Int) _ B5.out).mono ?_
    rintro e w6 hw
    rcases hw with ⟨h1, _, _⟩ | ⟨n2, W, a, c, h1, h2, hL, rfl, hR, hwl, hb⟩
    ·exact absurd ⟨by omega, hil⟩ h1
    obtain rfl : i = n2 := by omega
    have B6 := zPB (Gr.step B5.out hb)
    have C6 := zPB (Gr.step C5.out hb)
    have WW := zPB (WK.out W a c w6 B6.out hR (by omega))
    rw [(zKq D hL.1).2] at WW
    have HL := zPB hL
    clear hb hR h1 h2 hL B5 C5
    go_wp2_with fail
    refine WW.out.mono ?_
    rintro e w7 ⟨rfl, hb⟩
    have B7 := zPB (Gr.step B6.out hb)
    have C7 := zPB (Gr.step C6.out hb)
    have hin2 : i < (states q).length := by rw [hsl]; exact hlt
    have hst : (states q)[i] = (zAI q.1 i, q.2.getD i []) := by
     have h := zBJ D.all hlt
     rw [List.getElem?_eq_getElem hin2] at h
     injection h
    obtain ⟨bS, oS, a1, c1, a2, c2, rfl, s0, s1, hI1, hT, hI2, hI3⟩ := S3.out i hin2
    rw [hst] at s0 s1 hT
    dsimp only at s0 s1 hT
    have TT := zPB (fun w1 (b : Below w3.heap.size w3 w1) => hT.went b)
    have S1 := zPB (fun w1 (b : Below w3.heap.size w3 w1) => cell_later b s1)
    have TO := zPB (fun s (t : Int) (h : (s, t) ∈ q.2.getD i []) => zCg D i s t hlt h)
    have hTl : (q.2.getD i []).length <= 240 := Nat.le_trans (zEd D hlt) (zBK hv)
    have GW := zPB (fun (j : Nat) (s : Int) (V : List Int) (hj : j < q.1.length) (hm : (s, (j : Int)) ∈ q.2.getD i []) (hV : zCC (top G) q V j) => (show V.length <= W.length + 1 from by
     have h1 := hV.2 _ (HL.out.1.snoc hm)
     rcases Nat.lt_or_ge (W ++ [s]).length V.length with c | c
     ·have h2 := zBA ((HL.out.1.snoc hm).lt (zAa D)) (hV.1.lt (zAa D)) c
      omega
     ·rw [List.length_append, List.length_singleton] at c
      exact c))
    clear s0 s1 hT hst hb WW B6 C6 hI1 hI2 hI3 hin2
    generalize hTq : q.2.getD i [] = T at *
    clear hTq
    go_wp2_with fail
    generalize W.length = wl at *
    go_loopw [10] (fun v wz => ∃ kk : Nat, v = .int .i64 (kk : Int) /\ kk <= T.length /\ Below w7.heap.size w7 wz) (fun v _ => T.length - (intOf v).toNat)
    case atStart => exact ⟨0, rfl, Nat.zero_le _, .refl _ _⟩
    case round =>
     obtain ⟨kk, rfl, hkk, hB8⟩ := hrel
     have B8 := zPB (Gr.step B7.out hB8)
     have C8 := zPB (Gr.step C7.out hB8)
     have D8 := zPB hB8
     clear hB8
     have s1 := S1.out wr B8.out
     by_cases hlk : kk < T.length
     ·obtain ⟨b5, o5, rfl, t0, t1⟩ := (TT.out wr B8.out).at kk hlk
      obtain ⟨j, hj2, hjn⟩ := TO.out T[kk].1 T[kk].2 (List.getElem_mem hlk)
      have hmem : (T[kk].1, (j : Int)) ∈ T := by
       rw [← hj2]
       exact List.getElem_mem hlk
      rw [hj2] at t1
      have HM := zPB hmem
      have hkl : (kk : Int) < (T.length : Int) := by omega
      clear hj2 hmem t0
      generalize T[kk].1 = s at *
      go_wp2_with fail
      refine (WY.out (j : Int) _ B8.out).mono ?_
      rintro e w9 hw
      rcases hw with ⟨h1, _, _⟩ | ⟨n2, V, a9, c9, h1, h2, hV, rfl, hR, hvl, hb⟩
      ·exact absurd ⟨by omega, by omega⟩ h1
      obtain rfl : j = n2 := by omega
      have hvw := GW.out j s V hjn HM.out hV
      have D9 := zPB (Gr.step D8.out hb)
      have hvi : ¬ ((wl : Int) + 1 < (V.length : Int)) := by omega
      have hvn : ¬ (wl + 1 < V.length) := by omega
      have hkk2 : kk + 1 <= T.length := by omega
      clear hb hR h1 h2 hV s1 t1
      generalize V.length = vl at *
      go_wp2_with fail
      go_roundw
      case rel => exact ⟨kk + 1, by go_num, hkk2, D9.out⟩
      case measure => first | (simp [intOf]; omega) | omega
     ·obtain rfl : kk = T.length := by omega
      go_wp2_with fail
      go_roundw
      case rel => exact ⟨i + 1, by go_num, by omega, C8.out⟩
      case measure => first | (simp [intOf]; omega) | omega
   ·obtain rfl : i = q.1.length := by omega
    have X5 := zPB (X3.out.went B5.out)
    go_wp2_with (go_at_call 7; refine (AW.out _).mono ?_; rintro e w6 ⟨rfl, hb⟩; have HB := zPB (Gr.step X5.out.below hb); clear hb)
    go_ret
    exact ⟨rfl, HB.out⟩
