/-
  The plain answer of layer 8 for a whole grammar: Show.
-/
import Derived.Test.YtimfiaphhomelaaGshowRef
import Derived.Deep.DeepCutAuto
namespace Go.Proofs.Ytimfiaphhomelaa.Sw
open Go.RowKit Go.Maps
open Go.Proofs.Ytimfiaphhomelaa.Gr (Gram GAt Sh gv Is Bx checkN ordB)
set_option linter.unusedVariables false
set_option linter.unusedSimpArgs false

def tokT (G : Gram) (k : Nat) : ByteArray := str ([37, 116, 111, 107, 101, 110] ++ termsL (G.terms.take k))
theorem tok_zero (G : Gram) : (⟨#[37, 116, 111, 107, 101, 110]⟩ : ByteArray) = tokT G 0 := rfl
theorem tok_next (G : Gram) {k : Nat} (h : k < G.terms.length) : (tokT G k ++ ⟨#[32]⟩) ++ G.terms[k] = tokT G (k + 1) := by
  unfold tokT
  rw [terms_take h, ← str_of G.terms[k], str_data]
  show (str _ ++ str [32]) ++ str _ = _
  rw [str_append, str_append]
  refine congrArg str ?_
  simp
theorem tok_end (G : Gram) (h : ¬ G.terms.length = 0) : tokT G G.terms.length ++ ⟨#[10]⟩ = str (tokenL G) := by
  unfold tokT tokenL
  rw [List.take_length, if_neg h]
  show str _ ++ str [10] = _
  rw [str_append, List.append_assoc]
theorem terms_mono (L : List ByteArray) (k : Nat) : (termsL (L.take k)).length ≤ (termsL L).length := by
  have h : termsL L = termsL (L.take k) ++ termsL (L.drop k) := by
    unfold termsL
    rw [← List.flatMap_append, List.take_append_drop]
  rw [h, List.length_append]
  omega
theorem line_size (a : ByteArray) : (a ++ (⟨#[10]⟩ : ByteArray)).size = a.size + 1 := by rw [ByteArray.size_append]; rfl

/-- The text with so many rules. -/
def shT (G : Gram) (k : Nat) : ByteArray := str (tokenL G ++ (startL G ++ ([37, 37, 10] ++ rowsL G G.rules k)))
theorem sh_zero (G : Gram) : ((str (tokenL G) ++ ⟨#[37, 115, 116, 97, 114, 116, 32]⟩) ++ Gr.nameS G G.start) ++ ⟨#[10, 37, 37, 10]⟩ = shT G 0 := by
  rw [← nm_str]
  show ((str _ ++ str [37, 115, 116, 97, 114, 116, 32]) ++ str _) ++ str [10, 37, 37, 10] = _
  rw [str_append, str_append, str_append]
  unfold shT startL
  refine congrArg str ?_
  simp [rowsL]
theorem sh_next (G : Gram) (k : Nat) : shT G k ++ str (rowL G G.rules k) = shT G (k + 1) := by
  unfold shT
  rw [str_append, rows_succ]
  refine congrArg str ?_
  simp
theorem sh_first (G : Gram) {k : Nat} (h : k < G.rules.length) (h1 : k < 1) : shT G k ++ ruleS G G.rules[k] = shT G (k + 1) := by
  rw [← sh_next G k, row_first G h h1]
  rfl
theorem sh_same (G : Gram) {j : Nat} (h : j + 1 < G.rules.length) (e : Gr.leftOf G.rules j = Gr.leftOf G.rules (j + 1)) : (shT G (j + 1) ++ ⟨#[10, 9, 124]⟩) ++ str (rightL G G.rules[j + 1].2) = shT G (j + 1 + 1) := by
  rw [← sh_next G (j + 1), row_same G h e, ← str_append, ← ByteArray.append_assoc]
  rfl
theorem sh_new (G : Gram) {j : Nat} (h : j + 1 < G.rules.length) (e : ¬ Gr.leftOf G.rules j = Gr.leftOf G.rules (j + 1)) : (shT G (j + 1) ++ ⟨#[10, 9, 59, 10]⟩) ++ ruleS G G.rules[j + 1] = shT G (j + 1 + 1) := by
  rw [← sh_next G (j + 1), row_new G h e, ← str_append, ← ByteArray.append_assoc]
  rfl
theorem sh_end (G : Gram) : shT G G.rules.length ++ ⟨#[10, 9, 59, 10]⟩ = str (showL G) := by
  unfold shT showL
  show str _ ++ str [10, 9, 59, 10] = _
  rw [str_append]
  refine congrArg str ?_
  simp
theorem sh_size {G : Gram} (hS : Short G) {k : Nat} (hk : k ≤ G.rules.length) : (shT G k).size ≤ 200000 := by
  have h1 := hS.decls
  have h2 := hS.rows
  have h3 := rows_mono G G.rules hk
  unfold shT
  rw [str_size]
  simp only [List.length_append, List.length_cons, List.length_nil] at h1 ⊢
  omega
theorem row_size {G : Gram} (hS : Short G) {k : Nat} (hk : k < G.rules.length) : (rowL G G.rules k).length ≤ 200000 := by
  have h2 := hS.rows
  have h3 := rows_mono G G.rules (show k + 1 ≤ G.rules.length from hk)
  rw [rows_succ, List.length_append] at h3
  omega
theorem bar_size (a : ByteArray) : (a ++ (⟨#[10, 9, 124]⟩ : ByteArray)).size = a.size + 3 := by rw [ByteArray.size_append]; rfl
theorem end_size (a : ByteArray) : (a ++ (⟨#[10, 9, 59, 10]⟩ : ByteArray)).size = a.size + 4 := by rw [ByteArray.size_append]; rfl
theorem start_size (a : ByteArray) : (a ++ (⟨#[37, 115, 116, 97, 114, 116, 32]⟩ : ByteArray)).size = a.size + 7 := by rw [ByteArray.size_append]; rfl

set_option maxHeartbeats 2000000 in
set_option maxRecDepth 100000 in
theorem rshow_ok (h : Sh) (G : Gram) (w : World) (k : GAt h G w) (hr : G.rules.length ≤ 65536) (ht : G.terms.length + G.nons.length ≤ 65536) (hv : checkN G = 0) (ho : ordB G = true) (hS : Short G) :
    Calls Try.prog 7 #[gv h G] w (Is (.string (str (showL G))) w) := by
  have X := Lib.hid (Bx.start h G w 25)
  have CK := Lib.hid (fun w' (b : Below w.heap.size w w') => show Calls Try.prog 15 #[gv h G] w' (Is (.int .i64 0) w') from hv ▸ Gr.rcheck_any h G w' (k.went b))
  have OD := Lib.hid (fun w' (b : Below w.heap.size w w') => show Calls Try.prog 16 #[gv h G] w' (Is (.bool true) w') from ho ▸ Gr.rordered_any h G w' (k.went b) hr)
  have K := Lib.hid k
  have HS := Lib.hid hS
  have HT := Lib.hid ht
  have HR := Lib.hid hr
  have t2 := k.t2
  have r1 := k.r1
  clear hv ho k hS ht hr
  obtain ⟨a1, c1, a2, c2, a3, c3⟩ := h
  unfold gv
  dsimp only at r1 ⊢
  go_enter Try.func7, Try.ntmps7
  go_upto_region 4 with (first
    | (go_at_call 15; refine (CK.out _ X.out.below).mono ?_; rintro e w1 ⟨rfl, hb⟩; have X1 := Lib.hid (X.out.went hb); clear hb; obtain ⟨_, x0, x1, x2, x3⟩ := X1.out)
    | (go_at_call 16; refine (OD.out _ X1.out.below).mono ?_; rintro e w2 ⟨rfl, hb⟩; have X2 := Lib.hid (X1.out.went hb); clear hb x0 x1 x2 x3; obtain ⟨_, x0, x1, x2, x3⟩ := X2.out)
    | fail)
  clear X1 X CK OD
  go_upto_if 17 with fail
  go_cut [3] (fun s3 wx => s3 = .string (str (tokenL G)) ∧ Below w2.heap.size w2 wx)
  case first =>
    by_cases h0 : G.terms.length < 1
    · have hR : (⟨#[]⟩ : ByteArray) = str (tokenL G) := by unfold tokenL; rw [if_pos (by omega)]; rfl
      go_wp2
      go_meet
      case rel => exact ⟨by rw [hR], Below.refl _ _⟩
    · have hnt := Lib.hid (tok_zero G)
      have hpos : 0 < G.terms.length := by omega
      go_wp2
      rw [hnt.out]
      go_loopw [3, 4] (fun s i wr => ∃ k, k ≤ G.terms.length ∧ i = .int .i64 (k : Int) ∧ s = .string (tokT G k) ∧ Below w2.heap.size w2 wr) (fun _ i _ => G.terms.length - (intOf i).toNat)
      case atStart => exact ⟨0, Nat.zero_le _, rfl, rfl, Below.refl _ _⟩
      case round =>
        obtain ⟨k, hk, rfl, rfl, hb⟩ := hrel
        have B := Lib.hid hb
        obtain ⟨_, x0, x1, x2, x3⟩ := X2.out.went hb
        have hsz : (tokT G k).size ≤ 20000 := by
          have h1 := HS.out.terms
          have h2 := terms_mono G.terms k
          unfold tokT
          rw [str_size, List.length_append]
          simp only [List.length_cons, List.length_nil]
          omega
        by_cases hlt : k < G.terms.length
        · obtain ⟨b0, o0, e, hc⟩ := (K.out.went (Gr.step X2.out.below hb)).terms k (by simpa using hlt)
          try dsimp only at e
          subst e
          simp only [List.getElem_map] at hc
          have hts : G.terms[k].size ≤ 20000 := by
            have h1 := HS.out.terms
            have h2 := terms_mono G.terms (k + 1)
            rw [terms_take hlt, List.length_append, List.length_cons] at h2
            have h3 : G.terms[k].data.toList.length = G.terms[k].size := by simp
            omega
          have HN := Lib.hid (tok_next G hlt)
          have hs2 := blank_size (tokT G k)
          generalize G.terms[k] = t at *
          have hs4 : ¬ 9223372036854775807 < (tokT G k).size + 1 := by omega
          have hs5 : ¬ 9223372036854775807 < (tokT G k).size + 1 + t.size := by omega
          clear hb
          go_wp2
          go_round
          case rel => exact ⟨k + 1, hlt, by go_num, by rw [HN.out], B.out⟩
          case measure => simp [intOf]; omega
        · obtain rfl : k = G.terms.length := by omega
          have HN := Lib.hid (tok_end G (by omega))
          have hs2 := line_size (tokT G G.terms.length)
          have hs4 : ¬ 9223372036854775807 < (tokT G G.terms.length).size + 1 := by omega
          clear hb hlt hk
          go_wp2
          go_meet
          case rel => exact ⟨by rw [HN.out], B.out⟩
  case rest =>
    clear x0 x1 x2 x3
    obtain ⟨rfl, hbc⟩ := hcut
    have XC := Lib.hid (X2.out.went hbc)
    obtain ⟨_, x0, x1, x2, x3⟩ := XC.out
    have NM := Lib.hid (fun w' (b : Below w.heap.size w w') => Gr.rname_any ⟨a1, c1, a2, c2, a3, c3⟩ G G.start w' (K.out.went b) HT.out)
    have HZ := Lib.hid (sh_zero G)
    have hd := HS.out.decls
    have hs0 : (str (tokenL G)).size ≤ 20000 := by rw [str_size]; rw [List.length_append] at hd; omega
    have hs1 := start_size (str (tokenL G))
    have hs2 : (Gr.nameS G G.start).size ≤ 20000 := by
      have e : (Gr.nameS G G.start).size = (nmL G G.start).length := by unfold nmL; simp
      rw [List.length_append] at hd
      unfold startL at hd
      simp only [List.length_append, List.length_cons, List.length_nil] at hd
      omega
    clear hd hbc X2
    generalize Gr.nameS G G.start = nm at *
    generalize str (tokenL G) = S0 at *
    have e2 : ((S0 ++ (⟨#[37, 115, 116, 97, 114, 116, 32]⟩ : ByteArray)) ++ nm).size = S0.size + 7 + nm.size := by rw [ByteArray.size_append, hs1]
    have g1 : ¬ 9223372036854775807 < S0.size + 7 := by omega
    have g2 : ¬ 9223372036854775807 < S0.size + 7 + nm.size := by omega
    have g3 : ¬ 9223372036854775807 < S0.size + 7 + nm.size + 4 := by omega
    go_wp2_with (go_at_call 17; refine (NM.out _ XC.out.below).mono ?_; rintro e w3 ⟨rfl, hb⟩; have X3 := Lib.hid (XC.out.went hb); clear hb x0 x1 x2 x3)
    rw [HZ.out]
    clear hs0 hs1 hs2 e2 g1 g2 g3 NM XC
    go_loopw [3, 5] (fun s i wr => ∃ k, k ≤ G.rules.length ∧ i = .int .i64 (k : Int) ∧ s = .string (shT G k) ∧ Below w3.heap.size w3 wr) (fun _ i _ => G.rules.length - (intOf i).toNat)
    case atStart => exact ⟨0, Nat.zero_le _, rfl, rfl, Below.refl _ _⟩
    case round =>
      obtain ⟨k, hk, rfl, rfl, hb⟩ := hrel
      have B := Lib.hid hb
      have XR := Lib.hid (X3.out.went hb)
      obtain ⟨_, x0, x1, x2, x3⟩ := XR.out
      clear hb
      have hsz := sh_size HS.out hk
      by_cases hlt : k < G.rules.length
      · obtain ⟨b0, o0, ra, rc, e, h1, h2, h3, h4, h5⟩ := (K.out.went XR.out.below).rules k hlt
        try dsimp only at e
        subst e
        have H3 := Lib.hid h3
        have hrow := row_size HS.out hlt
        clear h3
        have hbd := Gr.drawn wr
        have hbd2 := Gr.step hbd (Gr.drawn wr.drew)
        by_cases hk1 : k < 1
        · rw [row_first G hlt hk1] at hrow
          have RU := Lib.hid (fun w' (b : Below wr.heap.size wr w') => rrule_any ⟨a1, c1, a2, c2, some ⟨b0, o0, none⟩, c3⟩ G G.rules[k] ra rc w' (K.out.went (Gr.step XR.out.below b)) (H3.out.below b (Nat.le_refl _)) h5 (by omega) HT.out)
          have HN := Lib.hid (sh_first G hlt hk1)
          have hs2 : (ruleS G G.rules[k]).size ≤ 200000 := by unfold ruleS; rw [str_size]; omega
          generalize ruleS G G.rules[k] = RS at *
          generalize shT G k = T at *
          have g1 : ¬ 9223372036854775807 < T.size + RS.size := by omega
          have HQ := Lib.hid (fun w' (b : Below wr.heap.size wr w') => (show w'.cell? ⟨w.heap.size, 0, none⟩ = some (.slice a1 G.terms.length c1) ∧ w'.cell? ⟨w.heap.size, 1, none⟩ = some (.slice a2 G.nons.length c2) ∧ w'.cell? ⟨w.heap.size, 2, none⟩ = some (.slice (some ⟨b0, o0, none⟩) G.rules.length c3) ∧ w'.cell? ⟨w.heap.size, 3, none⟩ = some (.int .i64 G.start) ∧ w'.cell? ⟨b0, o0 + k * 2, none⟩ = some (.int .i64 G.rules[k].1) ∧ w'.cell? ⟨b0, o0 + k * 2 + 1, none⟩ = some (.slice ra G.rules[k].2.length rc) ∧ Below wr.heap.size wr w' from
            ⟨Gr.cell_later b x0, Gr.cell_later b x1, Gr.cell_later b x2, Gr.cell_later b x3, Gr.cell_later b h1, Gr.cell_later b h2, b⟩))
          go_upto_region 15 with fail
          refine wp_region_held_drew (S := fun w' => Below wr.heap.size wr w') (by kernel_rfl) hbd (fun hHeld => ?_)
          refine wpAnyH_take (i := 0) (oi := _) (v := .int .i64 (k : Int)) rfl (by kernel_rfl) (by kernel_rfl) (by kernel_rfl) (fun _ _ _ h => h) (Or.inl ⟨by rfl, fun w5 hs5 => by first | (go_simp; done) | (go_simp; omega)⟩) (by assumption) ?_
          change wpAnyH _ _ _ _ _ _ _ (Act.put _ (some 50) _) _
          simp only [Act.put, List.setIfInBounds_toArray, List.set_cons_zero, List.set_cons_succ]
          refine wpAnyH_take (i := 1) (oi := _) (v := .bool false) rfl (by kernel_rfl) (by kernel_rfl) (by kernel_rfl) (fun _ _ _ h => h) (Or.inl ⟨by rfl, fun w5 hs5 => by first | (go_simp; done) | (go_simp; omega)⟩) (by assumption) ?_
          change wpAnyH _ _ _ _ _ _ _ (Act.put _ (some 51) _) _
          simp only [Act.put, List.setIfInBounds_toArray, List.set_cons_zero, List.set_cons_succ]
          refine wpAnyH_take (i := 2) (oi := _) (v := .bool false) rfl (by kernel_rfl) (by kernel_rfl) (by kernel_rfl) (fun _ _ _ h => h) (Or.inl ⟨by rfl, fun w5 hs5 => by first | (go_simp; done) | (go_simp; omega)⟩) (by assumption) ?_
          change wpAnyH _ _ _ _ _ _ _ (Act.put _ (some 52) _) _
          simp only [Act.put, List.setIfInBounds_toArray, List.set_cons_zero, List.set_cons_succ]
          refine wpAnyH_take (i := 3) (oi := _) (v := undef) rfl (by kernel_rfl) (by kernel_rfl) (by kernel_rfl) (fun _ _ _ h => h) (Or.inr ⟨by rfl, rfl⟩) (by assumption) ?_
          change wpAnyH _ _ _ _ _ _ _ (Act.put _ (some 53) _) _
          simp only [Act.put, List.setIfInBounds_toArray, List.set_cons_zero, List.set_cons_succ]
          refine wpAnyH_take (i := 4) (oi := _) (v := undef) rfl (by kernel_rfl) (by kernel_rfl) (by kernel_rfl) (fun _ _ _ h => h) (Or.inr ⟨by rfl, rfl⟩) (by assumption) ?_
          change wpAnyH _ _ _ _ _ _ _ (Act.put _ (some 54) _) _
          simp only [Act.put, List.setIfInBounds_toArray, List.set_cons_zero, List.set_cons_succ]
          refine wpAnyH_take (i := 5) (oi := _) (v := undef) rfl (by kernel_rfl) (by kernel_rfl) (by kernel_rfl) (fun _ _ _ h => h) (Or.inr ⟨by rfl, rfl⟩) (by assumption) ?_
          change wpAnyH _ _ _ _ _ _ _ (Act.put _ (some 55) _) _
          simp only [Act.put, List.setIfInBounds_toArray, List.set_cons_zero, List.set_cons_succ]
          refine wpAnyH_take (i := 6) (oi := _) (v := undef) rfl (by kernel_rfl) (by kernel_rfl) (by kernel_rfl) (fun _ _ _ h => h) (Or.inr ⟨by rfl, rfl⟩) (by assumption) ?_
          change wpAnyH _ _ _ _ _ _ _ (Act.put _ (some 56) _) _
          simp only [Act.put, List.setIfInBounds_toArray, List.set_cons_zero, List.set_cons_succ]
          refine wpAnyH_take (i := 7) (oi := _) (v := undef) rfl (by kernel_rfl) (by kernel_rfl) (by kernel_rfl) (fun _ _ _ h => h) (Or.inr ⟨by rfl, rfl⟩) (by assumption) ?_
          change wpAnyH _ _ _ _ _ _ _ (Act.put _ (some 57) _) _
          simp only [Act.put, List.setIfInBounds_toArray, List.set_cons_zero, List.set_cons_succ]
          refine wpAnyH_take (i := 8) (oi := _) (v := undef) rfl (by kernel_rfl) (by kernel_rfl) (by kernel_rfl) (fun _ _ _ h => h) (Or.inr ⟨by rfl, rfl⟩) (by assumption) ?_
          change wpAnyH _ _ _ _ _ _ _ (Act.put _ (some 58) _) _
          simp only [Act.put, List.setIfInBounds_toArray, List.set_cons_zero, List.set_cons_succ]
          refine wpAnyH_take (i := 9) (oi := _) (v := undef) rfl (by kernel_rfl) (by kernel_rfl) (by kernel_rfl) (fun _ _ _ h => h) (Or.inr ⟨by rfl, rfl⟩) (by assumption) ?_
          change wpAnyH _ _ _ _ _ _ _ (Act.put _ (some 59) _) _
          simp only [Act.put, List.setIfInBounds_toArray, List.set_cons_zero, List.set_cons_succ]
          refine wpAnyH_take (i := 10) (oi := _) (v := undef) rfl (by kernel_rfl) (by kernel_rfl) (by kernel_rfl) (fun _ _ _ h => h) (Or.inr ⟨by rfl, rfl⟩) (by assumption) ?_
          change wpAnyH _ _ _ _ _ _ _ (Act.put _ (some 60) _) _
          simp only [Act.put, List.setIfInBounds_toArray, List.set_cons_zero, List.set_cons_succ]
          refine wpAnyH_take (i := 11) (oi := _) (v := undef) rfl (by kernel_rfl) (by kernel_rfl) (by kernel_rfl) (fun _ _ _ h => h) (Or.inr ⟨by rfl, rfl⟩) (by assumption) ?_
          change wpAnyH _ _ _ _ _ _ _ (Act.put _ (some 61) _) _
          simp only [Act.put, List.setIfInBounds_toArray, List.set_cons_zero, List.set_cons_succ]
          refine wpAnyH_take (i := 12) (oi := _) (v := undef) rfl (by kernel_rfl) (by kernel_rfl) (by kernel_rfl) (fun _ _ _ h => h) (Or.inr ⟨by rfl, rfl⟩) (by assumption) ?_
          change wpAnyH _ _ _ _ _ _ _ (Act.put _ (some 62) _) _
          simp only [Act.put, List.setIfInBounds_toArray, List.set_cons_zero, List.set_cons_succ]
          refine wpAnyH_take (i := 13) (oi := _) (v := undef) rfl (by kernel_rfl) (by kernel_rfl) (by kernel_rfl) (fun _ _ _ h => h) (Or.inr ⟨by rfl, rfl⟩) (by assumption) ?_
          change wpAnyH _ _ _ _ _ _ _ (Act.put _ (some 63) _) _
          simp only [Act.put, List.setIfInBounds_toArray, List.set_cons_zero, List.set_cons_succ]
          refine wpAnyH_take (i := 14) (oi := _) (v := undef) rfl (by kernel_rfl) (by kernel_rfl) (by kernel_rfl) (fun _ _ _ h => h) (Or.inr ⟨by rfl, rfl⟩) (by assumption) ?_
          change wpAnyH _ _ _ _ _ _ _ (Act.put _ (some 64) _) _
          simp only [Act.put, List.setIfInBounds_toArray, List.set_cons_zero, List.set_cons_succ]
          refine wpAnyH_take (i := 15) (oi := _) (v := undef) rfl (by kernel_rfl) (by kernel_rfl) (by kernel_rfl) (fun _ _ _ h => h) (Or.inr ⟨by rfl, rfl⟩) (by assumption) ?_
          change wpAnyH _ _ _ _ _ _ _ (Act.put _ (some 65) _) _
          simp only [Act.put, List.setIfInBounds_toArray, List.set_cons_zero, List.set_cons_succ]
          refine wpAnyH_take (i := 16) (oi := _) (v := undef) rfl (by kernel_rfl) (by kernel_rfl) (by kernel_rfl) (fun _ _ _ h => h) (Or.inr ⟨by rfl, rfl⟩) (by assumption) ?_
          change wpAnyH _ _ _ _ _ _ _ (Act.put _ (some 66) _) _
          simp only [Act.put, List.setIfInBounds_toArray, List.set_cons_zero, List.set_cons_succ]
          refine wpAnyH_take (i := 17) (oi := _) (v := .bool false) rfl (by kernel_rfl) (by kernel_rfl) (by kernel_rfl) (fun _ _ _ h => h) (Or.inl ⟨by rfl, fun w5 hs5 => by first | (go_simp; done) | (go_simp; omega)⟩) (by assumption) ?_
          change wpAnyH _ _ _ _ _ _ _ (Act.put _ (some 67) _) _
          simp only [Act.put, List.setIfInBounds_toArray, List.set_cons_zero, List.set_cons_succ]
          refine wpAnyH_done (by kernel_rfl) ?_ _
          clear hHeld
          go_upto_region 19 with fail
          go_region_held3 (fun w' => w'.cell? ⟨w.heap.size, 0, none⟩ = some (.slice a1 G.terms.length c1) ∧ w'.cell? ⟨w.heap.size, 1, none⟩ = some (.slice a2 G.nons.length c2) ∧ w'.cell? ⟨w.heap.size, 2, none⟩ = some (.slice (some ⟨b0, o0, none⟩) G.rules.length c3) ∧ w'.cell? ⟨w.heap.size, 3, none⟩ = some (.int .i64 G.start) ∧ w'.cell? ⟨b0, o0 + k * 2, none⟩ = some (.int .i64 G.rules[k].1) ∧ w'.cell? ⟨b0, o0 + k * 2 + 1, none⟩ = some (.slice ra G.rules[k].2.length rc) ∧ Below wr.heap.size wr w')
            (exact HQ.out _ (by assumption))
            (first
              | (go_at_call 9; refine (RU.out _ (by assumption)).mono ?_; rintro e wa ⟨rfl, hb⟩; have kA : Below wr.heap.size wr wa := Gr.step (by assumption) hb; clear hb)
              | fail)
          all_goals
            go_wp2
            go_round
            case rel => exact ⟨k + 1, hlt, by go_num, by rw [HN.out], Gr.step B.out kA⟩
            case measure => simp [intOf]; omega
        · obtain ⟨j, rfl⟩ : ∃ j, k = j + 1 := ⟨k - 1, by omega⟩
          obtain ⟨b1, o1, ra1, rc1, e1, p1, _⟩ := (K.out.went XR.out.below).rules j (by omega)
          simp only [Option.some.injEq, Addr.mk.injEq, and_true] at e1
          obtain ⟨rfl, rfl⟩ := e1
          have hl1 : Gr.leftOf G.rules j = G.rules[j].1 := Gr.leftOf_get (by omega)
          have hl2 : Gr.leftOf G.rules (j + 1) = G.rules[j + 1].1 := Gr.leftOf_get hlt
          have HQ := Lib.hid (fun w' (b : Below wr.heap.size wr w') => (show w'.cell? ⟨w.heap.size, 0, none⟩ = some (.slice a1 G.terms.length c1) ∧ w'.cell? ⟨w.heap.size, 1, none⟩ = some (.slice a2 G.nons.length c2) ∧ w'.cell? ⟨w.heap.size, 2, none⟩ = some (.slice (some ⟨b0, o0, none⟩) G.rules.length c3) ∧ w'.cell? ⟨w.heap.size, 3, none⟩ = some (.int .i64 G.start) ∧ w'.cell? ⟨b0, o0 + (j + 1) * 2, none⟩ = some (.int .i64 G.rules[j + 1].1) ∧ w'.cell? ⟨b0, o0 + (j + 1) * 2 + 1, none⟩ = some (.slice ra G.rules[j + 1].2.length rc) ∧ Below wr.heap.size wr w' from
            ⟨Gr.cell_later b x0, Gr.cell_later b x1, Gr.cell_later b x2, Gr.cell_later b x3, Gr.cell_later b h1, Gr.cell_later b h2, b⟩))
          have HP := Lib.hid (fun w' (b : Below wr.heap.size wr w') => (show w'.cell? ⟨w.heap.size, 2, none⟩ = some (.slice (some ⟨b0, o0, none⟩) G.rules.length c3) ∧ w'.cell? ⟨b0, o0 + j * 2, none⟩ = some (.int .i64 G.rules[j].1) ∧ w'.cell? ⟨b0, o0 + (j + 1) * 2, none⟩ = some (.int .i64 G.rules[j + 1].1) ∧ Below wr.heap.size wr w' from ⟨Gr.cell_later b x2, Gr.cell_later b p1, Gr.cell_later b h1, b⟩))
          by_cases hq : G.rules[j].1 = G.rules[j + 1].1
          · have he : Gr.leftOf G.rules j = Gr.leftOf G.rules (j + 1) := by rw [hl1, hl2]; exact hq
            have hr := row_same G hlt he
            rw [hr, List.length_append] at hrow
            have RU := Lib.hid (fun w' (b : Below wr.heap.size wr w') => rright_any ⟨a1, c1, a2, c2, some ⟨b0, o0, none⟩, c3⟩ G G.rules[j + 1].1 G.rules[j + 1].2 ra rc w' (K.out.went (Gr.step XR.out.below b)) (H3.out.below b (Nat.le_refl _)) h5 (by omega) HT.out)
            have HN := Lib.hid (sh_same G hlt he)
            have hs2 : (str (rightL G G.rules[j + 1].2)).size ≤ 200000 := by rw [str_size]; omega
            have hs3 := bar_size (shT G (j + 1))
            clear hl1 hl2 he hr hrow
            generalize str (rightL G G.rules[j + 1].2) = RS at *
            generalize shT G (j + 1) = T at *
            have g1 : ¬ 9223372036854775807 < T.size + 3 := by omega
            have g2 : ¬ 9223372036854775807 < T.size + 3 + RS.size := by omega
            have hj0 : (0 : Int) ≤ (j : Int) := by omega
            have hj1 : (j : Int) < (G.rules.length : Int) := by omega
            have hj2 : (0 : Int) ≤ (j : Int) + 1 := by omega
            have hj3 : (j : Int) + 1 < (G.rules.length : Int) := by omega
            have hjr : G.rules.length ≤ 65536 := HR.out
            have hw1 : IntKind.i64.wrap (j : Int) = (j : Int) := IntWalk.i64_in _ (by omega)
            have hw2 : IntKind.i64.wrap ((j : Int) + 1 - 1) = (j : Int) := by rw [show ((j : Int) + 1 - 1) = (j : Int) by omega]; exact hw1
            go_upto_region 15 with fail
            go_region_held3 (fun w' => w'.cell? ⟨w.heap.size, 2, none⟩ = some (.slice (some ⟨b0, o0, none⟩) G.rules.length c3) ∧ w'.cell? ⟨b0, o0 + j * 2, none⟩ = some (.int .i64 G.rules[j].1) ∧ w'.cell? ⟨b0, o0 + (j + 1) * 2, none⟩ = some (.int .i64 G.rules[j + 1].1) ∧ Below wr.heap.size wr w')
              (exact HP.out _ (by assumption))
              (fail)
            go_upto_region 16 with fail
            go_region_held3 (fun w' => w'.cell? ⟨w.heap.size, 0, none⟩ = some (.slice a1 G.terms.length c1) ∧ w'.cell? ⟨w.heap.size, 1, none⟩ = some (.slice a2 G.nons.length c2) ∧ w'.cell? ⟨w.heap.size, 2, none⟩ = some (.slice (some ⟨b0, o0, none⟩) G.rules.length c3) ∧ w'.cell? ⟨w.heap.size, 3, none⟩ = some (.int .i64 G.start) ∧ w'.cell? ⟨b0, o0 + (j + 1) * 2, none⟩ = some (.int .i64 G.rules[j + 1].1) ∧ w'.cell? ⟨b0, o0 + (j + 1) * 2 + 1, none⟩ = some (.slice ra G.rules[j + 1].2.length rc) ∧ Below wr.heap.size wr w')
              (exact HQ.out _ (by assumption))
              (first
                | (go_at_call 18; refine (RU.out _ (by assumption)).mono ?_; rintro e wa ⟨rfl, hb⟩; have kA : Below wr.heap.size wr wa := Gr.step (by assumption) hb; clear hb)
                | fail)
            all_goals
              go_wp2
              go_round
              case rel => exact ⟨j + 1 + 1, hlt, by go_num, by rw [HN.out], Gr.step B.out kA⟩
              case measure => simp [intOf]; omega
          · have he : ¬ Gr.leftOf G.rules j = Gr.leftOf G.rules (j + 1) := by rw [hl1, hl2]; exact hq
            have hr := row_new G hlt he
            rw [hr, List.length_append] at hrow
            have RU := Lib.hid (fun w' (b : Below wr.heap.size wr w') => rrule_any ⟨a1, c1, a2, c2, some ⟨b0, o0, none⟩, c3⟩ G G.rules[j + 1] ra rc w' (K.out.went (Gr.step XR.out.below b)) (H3.out.below b (Nat.le_refl _)) h5 (by omega) HT.out)
            have HN := Lib.hid (sh_new G hlt he)
            have hs2 : (ruleS G G.rules[j + 1]).size ≤ 200000 := by unfold ruleS; rw [str_size]; omega
            have hs3 := end_size (shT G (j + 1))
            clear hl1 hl2 he hr hrow
            generalize ruleS G G.rules[j + 1] = RS at *
            generalize shT G (j + 1) = T at *
            have g1 : ¬ 9223372036854775807 < T.size + 4 := by omega
            have g2 : ¬ 9223372036854775807 < T.size + 4 + RS.size := by omega
            have hj0 : (0 : Int) ≤ (j : Int) := by omega
            have hj1 : (j : Int) < (G.rules.length : Int) := by omega
            have hj2 : (0 : Int) ≤ (j : Int) + 1 := by omega
            have hj3 : (j : Int) + 1 < (G.rules.length : Int) := by omega
            have hjr : G.rules.length ≤ 65536 := HR.out
            have hw1 : IntKind.i64.wrap (j : Int) = (j : Int) := IntWalk.i64_in _ (by omega)
            have hw2 : IntKind.i64.wrap ((j : Int) + 1 - 1) = (j : Int) := by rw [show ((j : Int) + 1 - 1) = (j : Int) by omega]; exact hw1
            go_upto_region 15 with fail
            go_region_held3 (fun w' => w'.cell? ⟨w.heap.size, 2, none⟩ = some (.slice (some ⟨b0, o0, none⟩) G.rules.length c3) ∧ w'.cell? ⟨b0, o0 + j * 2, none⟩ = some (.int .i64 G.rules[j].1) ∧ w'.cell? ⟨b0, o0 + (j + 1) * 2, none⟩ = some (.int .i64 G.rules[j + 1].1) ∧ Below wr.heap.size wr w')
              (exact HP.out _ (by assumption))
              (fail)
            go_upto_region 19 with fail
            go_region_held3 (fun w' => w'.cell? ⟨w.heap.size, 0, none⟩ = some (.slice a1 G.terms.length c1) ∧ w'.cell? ⟨w.heap.size, 1, none⟩ = some (.slice a2 G.nons.length c2) ∧ w'.cell? ⟨w.heap.size, 2, none⟩ = some (.slice (some ⟨b0, o0, none⟩) G.rules.length c3) ∧ w'.cell? ⟨w.heap.size, 3, none⟩ = some (.int .i64 G.start) ∧ w'.cell? ⟨b0, o0 + (j + 1) * 2, none⟩ = some (.int .i64 G.rules[j + 1].1) ∧ w'.cell? ⟨b0, o0 + (j + 1) * 2 + 1, none⟩ = some (.slice ra G.rules[j + 1].2.length rc) ∧ Below wr.heap.size wr w')
              (exact HQ.out _ (by assumption))
              (first
                | (go_at_call 9; refine (RU.out _ (by assumption)).mono ?_; rintro e wa ⟨rfl, hb⟩; have kA : Below wr.heap.size wr wa := Gr.step (by assumption) hb; clear hb)
                | fail)
            all_goals
              go_wp2
              go_round
              case rel => exact ⟨j + 1 + 1, hlt, by go_num, by rw [HN.out], Gr.step B.out kA⟩
              case measure => simp [intOf]; omega
      · obtain rfl : k = G.rules.length := by omega
        have HN := Lib.hid (sh_end G)
        have hs3 := end_size (shT G G.rules.length)
        have g1 : ¬ 9223372036854775807 < (shT G G.rules.length).size + 4 := by omega
        clear hlt hk
        go_wp2
        rw [HN.out]
        go_ret
        exact ⟨rfl, Gr.step X3.out.below B.out⟩

end Go.Proofs.Ytimfiaphhomelaa.Sw
