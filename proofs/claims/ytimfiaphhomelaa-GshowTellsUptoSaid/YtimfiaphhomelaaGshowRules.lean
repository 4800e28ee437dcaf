/-
  gshow's rules. Conditions: at most 2^40 bytes.
-/
import Derived.Test.YtimfiaphhomelaaGshowDecls
namespace Go.Proofs.Ytimfiaphhomelaa.Sw
open Go.RowKit Go.Maps
open Go.Proofs.Ytimfiaphhomelaa.Gr (Gram GAt Sh gv Is Bx)
set_option linter.unusedVariables false
set_option linter.unusedSimpArgs false

theorem rows_mono (G : Gram) (R : List (Int × List Int)) {k n : Nat} (h : k ≤ n) : (rowsL G R k).length ≤ (rowsL G R n).length := by
  induction h with
  | refl => exact Nat.le_refl _
  | step _ ih =>
    rw [rows_succ, List.length_append]
    omega

theorem row_zero (G : Gram) {R : List (Int × List Int)} (h : 0 < R.length) : rowL G R 0 = ruleL G R[0] := by
  unfold rowL
  rw [if_pos rfl]
  simp [List.getD_eq_getElem?_getD, List.getElem?_eq_getElem h]
theorem row_first (G : Gram) {R : List (Int × List Int)} {k : Nat} (h : k < R.length) (h1 : k < 1) : rowL G R k = ruleL G R[k] := by
  obtain rfl : k = 0 := by omega
  exact row_zero G h
theorem row_same (G : Gram) {R : List (Int × List Int)} {j : Nat} (h : j + 1 < R.length) (e : Gr.leftOf R j = Gr.leftOf R (j + 1)) : rowL G R (j + 1) = [10, 9, 124] ++ rightL G R[j + 1].2 := by
  unfold rowL
  rw [if_neg (by omega), if_pos (by simpa using e)]
  simp [List.getD_eq_getElem?_getD, List.getElem?_eq_getElem h]
theorem row_new (G : Gram) {R : List (Int × List Int)} {j : Nat} (h : j + 1 < R.length) (e : ¬ Gr.leftOf R j = Gr.leftOf R (j + 1)) : rowL G R (j + 1) = [10, 9, 59, 10] ++ ruleL G R[j + 1] := by
  unfold rowL
  rw [if_neg (by omega), if_neg (by simpa using e)]
  simp [List.getD_eq_getElem?_getD, List.getElem?_eq_getElem h]

/-- The loop over rules: how far the text has come. -/
def SLoop (G : Gram) (w W2 : World) (i : Value) (wr : World) : Prop := ∃ k, k ≤ G.rules.length ∧ i = .int .i64 (k : Int) ∧ Bd (w.heap.size + 1) (rowsL G G.rules k) wr ∧ Below (w.heap.size + 1) W2 wr

set_option maxHeartbeats 1000000 in
set_option maxRecDepth 100000 in
theorem rules_any (h : Sh) (G : Gram) (w : World) (k : GAt h G w) (hlen : (rowsL G G.rules G.rules.length).length + 4 ≤ 1099511627776) :
    Calls Try.prog 14 #[gv h G] w (Is (.string (str (rowsL G G.rules G.rules.length ++ [10, 9, 59, 10]))) w) := by
  obtain ⟨a1, c1, a2, c2, a3, c3⟩ := h
  have X := Lib.hid (Bx.start ⟨a1, c1, a2, c2, a3, c3⟩ G w 25)
  have HB := Lib.hid (Bd.new (w.alloc (.cells #[.slice a1 G.terms.length c1, .slice a2 G.nons.length c2, .slice a3 G.rules.length c3, .int .i64 G.start] 25)))
  have K := Lib.hid k
  have HM := Lib.hid hlen
  have r1 := k.r1
  have r2 := k.r2
  clear k hlen
  unfold gv
  dsimp only at r1 ⊢
  go_enter Try.func14, Try.ntmps14
  go_wp2
  have HF := Lib.hid (show Below w.heap.size w ((w.alloc (.cells #[.slice a1 G.terms.length c1, .slice a2 G.nons.length c2, .slice a3 G.rules.length c3, .int .i64 G.start] 25)).alloc (.cells #[.pointer none, .slice none 0 0] 45)) from Gr.step X.out.below (Gr.boxed _ _))
  have XB := Lib.hid (X.out.alloc (.cells #[.pointer none, .slice none 0 0] 45)).box
  have hsz : (w.alloc (.cells #[.slice a1 G.terms.length c1, .slice a2 G.nons.length c2, .slice a3 G.rules.length c3, .int .i64 G.start] 25)).heap.size = w.heap.size + 1 := by simp
  rw [hsz] at HB
  clear X hsz
  generalize (w.alloc (.cells #[.slice a1 G.terms.length c1, .slice a2 G.nons.length c2, .slice a3 G.rules.length c3, .int .i64 G.start] 25)).alloc (.cells #[.pointer none, .slice none 0 0] 45) = W2 at *
  go_loopw [9] (fun i wr => SLoop G w W2 i wr) (fun i _ => G.rules.length - (intOf i).toNat)
  case atStart => exact ⟨0, Nat.zero_le _, rfl, HB.out, Below.refl _ _⟩
  case round =>
    obtain ⟨k, hk, rfl, hbd, hbel⟩ := hrel
    have BD := Lib.hid hbd
    have BL := Lib.hid hbel
    have B0 := Lib.hid (show Below w.heap.size w wr from HF.out.trans (hbel.mono (Nat.le_succ _)))
    have BX := Lib.hid (show ∀ w', Below (w.heap.size + 1) W2 w' → Gr.Box w.heap.size ⟨a1, c1, a2, c2, a3, c3⟩ G w' from fun w' hb => ⟨(hb.cell (p := ⟨w.heap.size, 0, none⟩) (Nat.lt_succ_self _)).trans XB.out.x0, (hb.cell (p := ⟨w.heap.size, 1, none⟩) (Nat.lt_succ_self _)).trans XB.out.x1, (hb.cell (p := ⟨w.heap.size, 2, none⟩) (Nat.lt_succ_self _)).trans XB.out.x2, (hb.cell (p := ⟨w.heap.size, 3, none⟩) (Nat.lt_succ_self _)).trans XB.out.x3⟩)
    obtain ⟨x0, x1, x2, x3⟩ := BX.out _ BL.out
    clear hbd hbel HB XB HF
    by_cases hlt : k < G.rules.length
    · obtain ⟨b0, o0, ra, rc, e, h1, h2, h3, h4, h5⟩ := (K.out.went B0.out).rules k hlt
      try dsimp only at e
      subst e
      have hmono := rows_mono G G.rules (show k + 1 ≤ G.rules.length from hlt)
      have hM := HM.out
      rw [rows_succ, List.length_append] at hmono
      have H3 := Lib.hid h3
      have hrow : (rowL G G.rules k).length + (rowsL G G.rules k).length ≤ 1099511627776 := by omega
      have WR := Lib.hid (fun w' (b : Bd (w.heap.size + 1) (rowsL G G.rules k) w') => write_any (w.heap.size + 1) (rowsL G G.rules k) (str (rowL G G.rules k)) w' b (by rw [str_size]; omega))
      have HS := Lib.hid (show rowsL G G.rules k ++ (str (rowL G G.rules k)).data.toList = rowsL G G.rules (k + 1) by rw [str_data, rows_succ])
      have BN := Lib.hid (BD.out.went (Gr.boxed wr (.cells #[.int .i64 G.rules[k].1, .slice ra G.rules[k].2.length rc] 28)))
      have LN := Lib.hid (BL.out.trans ((Gr.boxed wr (.cells #[.int .i64 G.rules[k].1, .slice ra G.rules[k].2.length rc] 28)).mono (Nat.le_of_lt BD.out.lt)))
      have QN := Lib.hid (Gr.boxed wr (.cells #[.int .i64 G.rules[k].1, .slice ra G.rules[k].2.length rc] 28))
      clear hmono hM h3
      by_cases hk1 : k < 1
      · have RU := Lib.hid (fun w' (b : Below wr.heap.size wr w') => rule_any ⟨a1, c1, a2, c2, some ⟨b0, o0, none⟩, c3⟩ G G.rules[k] ra rc w' (K.out.went (Gr.step B0.out b)) (H3.out.below b (Nat.le_refl _)) h5 (by rw [row_first G hlt hk1] at hrow; omega))
        have hS : ruleS G G.rules[k] = str (rowL G G.rules k) := by rw [row_first G hlt hk1]; rfl
        rw [hS] at RU
        have hsz : w.heap.size < wr.heap.size := Nat.lt_of_succ_lt BD.out.lt
        clear hrow hS H3 K HM
        go_wp2_with (first
          | (go_at_call 8; refine (RU.out _ QN.out).mono ?_; rintro e w1 ⟨rfl, hb⟩; have D1 := Lib.hid (BN.out.went hb); have L1 := Lib.hid (LN.out.trans (hb.mono (Nat.le_of_lt BN.out.lt))); clear hb)
          | (go_at_call 29; ((with_reducible refine (WR.out _ D1.out).mono ?_)); rintro e w2 ⟨rfl, hd2, hb2⟩; have D2 := Lib.hid hd2; have L2 := Lib.hid (L1.out.trans hb2); clear hd2 hb2)
          | fail)
        go_round
        case rel => exact ⟨k + 1, hlt, by go_num, HS.out ▸ D2.out, L2.out⟩
        case measure => simp [intOf]; omega
      · have hsz : w.heap.size < wr.heap.size := Nat.lt_of_succ_lt BD.out.lt
        obtain ⟨j, rfl⟩ : ∃ j, k = j + 1 := ⟨k - 1, by omega⟩
        obtain ⟨b1, o1, ra1, rc1, e1, p1, _⟩ := (K.out.went B0.out).rules j (by omega)
        simp only [Option.some.injEq, Addr.mk.injEq, and_true] at e1
        obtain ⟨rfl, rfl⟩ := e1
        have hb0 : b0 < wr.heap.size := World.block_lt_of_cell? _ _ p1
        have Q3 := Lib.hid (Gr.step QN.out (Gr.drawn _))
        have D3 := Lib.hid (BN.out.went (Gr.drawn _))
        have L3 := Lib.hid (LN.out.trans ((Gr.drawn (wr.alloc (.cells #[.int .i64 G.rules[j + 1].1, .slice ra G.rules[j + 1].2.length rc] 28))).mono (Nat.le_of_lt BN.out.lt)))
        have hl1 : Gr.leftOf G.rules j = G.rules[j].1 := Gr.leftOf_get (by omega)
        have hl2 : Gr.leftOf G.rules (j + 1) = G.rules[j + 1].1 := Gr.leftOf_get hlt
        by_cases hq : G.rules[j].1 = G.rules[j + 1].1
        · have hr := row_same G hlt (by rw [hl1, hl2]; exact hq)
          have NS := Lib.hid (fun w' (b : Below wr.heap.size wr w') => names_any ⟨a1, c1, a2, c2, some ⟨b0, o0, none⟩, c3⟩ G G.rules[j + 1].2 ra rc w' (K.out.went (Gr.step B0.out b)) (H3.out.below b (Nat.le_refl _)) h5 (by rw [hr, List.length_append] at hrow; omega))
          have hS : str ((⟨#[10, 9, 124]⟩ : ByteArray).data.toList ++ (str (rightL G G.rules[j + 1].2)).data.toList) = str (rowL G G.rules (j + 1)) := by rw [hr, str_data]
          have JJ := Lib.hid (fun w' => joined_two ⟨#[10, 9, 124]⟩ (str (rightL G G.rules[j + 1].2)) w' (by
            have e := congrArg (fun s : ByteArray => s.size) hS
            simp only [str_size] at e
            rw [e]
            omega))
          rw [hS] at JJ
          clear hrow hS H3 K HM hr hl1 hl2
          go_upto_region 8 with fail
          go_region
          go_wp2_with (first
            | (go_at_call 20; refine (NS.out _ Q3.out).mono ?_; rintro e w1 ⟨rfl, hb⟩; have D4 := Lib.hid (D3.out.went hb); have L4 := Lib.hid (L3.out.trans (hb.mono (Nat.le_of_lt D3.out.lt))); clear hb)
            | (go_at_call 12; refine (JJ.out _).mono ?_; rintro e w2 ⟨rfl, hb⟩; have D5 := Lib.hid ((D4.out.went (Gr.boxed _ _)).went hb); have L5 := Lib.hid ((L4.out.trans ((Gr.boxed _ _).mono (Nat.le_of_lt D4.out.lt))).trans (hb.mono (Nat.le_of_lt (D4.out.went (Gr.boxed _ _)).lt))); clear hb)
            | (go_at_call 29; ((with_reducible refine (WR.out _ D5.out).mono ?_)); rintro e w3 ⟨rfl, hd2, hb2⟩; have D6 := Lib.hid hd2; have L6 := Lib.hid (L5.out.trans hb2); clear hd2 hb2)
            | fail)
          go_round
          case rel => exact ⟨j + 1 + 1, hlt, by go_num, HS.out ▸ D6.out, L6.out⟩
          case measure => simp [intOf]; omega
        · have hr := row_new G hlt (by rw [hl1, hl2]; exact hq)
          have RU := Lib.hid (fun w' (b : Below wr.heap.size wr w') => rule_any ⟨a1, c1, a2, c2, some ⟨b0, o0, none⟩, c3⟩ G G.rules[j + 1] ra rc w' (K.out.went (Gr.step B0.out b)) (H3.out.below b (Nat.le_refl _)) h5 (by rw [hr, List.length_append] at hrow; omega))
          have hS : str ((⟨#[10, 9, 59, 10]⟩ : ByteArray).data.toList ++ (ruleS G G.rules[j + 1]).data.toList) = str (rowL G G.rules (j + 1)) := by unfold ruleS; rw [hr, str_data]
          have JJ := Lib.hid (fun w' => joined_two ⟨#[10, 9, 59, 10]⟩ (ruleS G G.rules[j + 1]) w' (by
            have e := congrArg (fun s : ByteArray => s.size) hS
            simp only [str_size] at e
            rw [e]
            omega))
          rw [hS] at JJ
          clear hrow hS H3 K HM hr hl1 hl2
          generalize ruleS G G.rules[j + 1] = RS at *
          go_upto_region 8 with fail
          go_region
          go_wp2_with (first
            | (go_at_call 8; refine (RU.out _ Q3.out).mono ?_; rintro e w1 ⟨rfl, hb⟩; have D4 := Lib.hid (D3.out.went hb); have L4 := Lib.hid (L3.out.trans (hb.mono (Nat.le_of_lt D3.out.lt))); clear hb)
            | (go_at_call 12; refine (JJ.out _).mono ?_; rintro e w2 ⟨rfl, hb⟩; have D5 := Lib.hid ((D4.out.went (Gr.boxed _ _)).went hb); have L5 := Lib.hid ((L4.out.trans ((Gr.boxed _ _).mono (Nat.le_of_lt D4.out.lt))).trans (hb.mono (Nat.le_of_lt (D4.out.went (Gr.boxed _ _)).lt))); clear hb)
            | (go_at_call 29; ((with_reducible refine (WR.out _ D5.out).mono ?_)); rintro e w3 ⟨rfl, hd2, hb2⟩; have D6 := Lib.hid hd2; have L6 := Lib.hid (L5.out.trans hb2); clear hd2 hb2)
            | fail)
          go_round
          case rel => exact ⟨j + 1 + 1, hlt, by go_num, HS.out ▸ D6.out, L6.out⟩
          case measure => simp [intOf]; omega
    · obtain rfl : k = G.rules.length := by omega
      have WE := Lib.hid (write_any (w.heap.size + 1) (rowsL G G.rules G.rules.length) ⟨#[10, 9, 59, 10]⟩ wr BD.out (by have := HM.out; show _ + 4 ≤ _; omega))
      have hS : rowsL G G.rules G.rules.length ++ (⟨#[10, 9, 59, 10]⟩ : ByteArray).data.toList = rowsL G G.rules G.rules.length ++ [10, 9, 59, 10] := rfl
      rw [hS] at WE
      generalize rowsL G G.rules G.rules.length ++ [10, 9, 59, 10] = T at *
      clear hlt hk hS BX
      go_wp2_with (first
        | (go_at_call 29; refine WE.out.mono ?_; rintro e w1 ⟨rfl, hd1, hb1⟩; have S1 := Lib.hid (string_any _ _ _ hd1); have B1 := Lib.hid (B0.out.trans (hb1.mono (Nat.le_succ _))); clear hd1 hb1)
        | (go_at_call 30; refine S1.out.mono ?_; rintro e w2 ⟨rfl, hb2⟩; have B2 := Lib.hid (B1.out.trans (hb2.mono (Nat.le_succ _))); clear hb2)
        | fail)
      go_ret
      exact ⟨rfl, B2.out⟩

end Go.Proofs.Ytimfiaphhomelaa.Sw
