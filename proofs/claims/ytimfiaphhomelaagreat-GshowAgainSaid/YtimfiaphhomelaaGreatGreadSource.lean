/-
  The parser: the whole source. Condition: the tokens end with the end.
-/
import Derived.Test.YtimfiaphhomelaaGreatGreadSrc
namespace Go.Proofs.YtimfiaphhomelaaGreat.Rd
open Go.RowKit Go.Maps
open Go.Proofs.YtimfiaphhomelaaGreat.Tk (Tok tcs cells cells_length cells_snoc Just info_tok cells_three_new)
set_option linter.unusedVariables false
set_option linter.unusedSimpArgs false

/-- What stands behind the declarations. -/
def After (D : List Decl) (r : List Tok) (x : Pr Src) : Prop := (∀ e q, takeP [6] r = .no e q → x = .no e q) ∧ ∀ t r2, takeP [6] r = .ok t r2 →
  ∃ xR, Is (fun f => ruleP f r2) xR ∧ (∀ e q, xR = .no e q → x = .no e q) ∧ ∀ R r3, xR = .ok R r3 →
    ∃ xS, Is (fun f => rulesP f r3 [R]) xS ∧ (∀ e q, xS = .no e q → x = .no e q) ∧ ∀ Rs r4, xS = .ok Rs r4 → x = .ok ⟨D, Rs⟩ r4

theorem src_parts {l : List Tok} {x : Pr Src} (hx : Is (fun f => sourceP f l) x) : ∃ xD, Is (fun f => declsP f l []) xD ∧ (∀ e q, xD = .no e q → x = .no e q) ∧ ∀ D r, xD = .ok D r → After D r x := by
  obtain ⟨f, hf, hxo⟩ := hx
  simp only [sourceP] at hf
  refine ⟨declsP f l [], ⟨f, rfl, fun h => ?_⟩, fun e q h => ?_, fun D r h => ⟨fun e q h2 => ?_, fun t r2 h2 => ⟨ruleP f r2, ⟨f, rfl, fun h3 => ?_⟩, fun e q h3 => ?_, fun R r3 h3 => ⟨rulesP f r3 [R], ⟨f, rfl, fun h4 => ?_⟩, fun e q h4 => ?_, fun Rs r4 h4 => ?_⟩⟩⟩⟩
  · rw [h] at hf; exact hxo hf.symm
  · rw [h] at hf; exact hf.symm
  · rw [h] at hf; simp only [Pr.bind, h2] at hf; exact hf.symm
  · rw [h] at hf; simp only [Pr.bind, h2, h3] at hf; exact hxo hf.symm
  · rw [h] at hf; simp only [Pr.bind, h2, h3] at hf; exact hf.symm
  · rw [h] at hf; simp only [Pr.bind, h2, h3, h4] at hf; exact hxo hf.symm
  · rw [h] at hf; simp only [Pr.bind, h2, h3, h4] at hf; exact hf.symm
  · rw [h] at hf; simp only [Pr.bind, h2, h3, h4] at hf; exact hf.symm

theorem Bk.two {q : Nat} {a b : Value} {T : TypeId} {w : World} (h : Bk q #[a, b] T w) : w.cell? ⟨q, 0, none⟩ = some a ∧ w.cell? ⟨q, 1, none⟩ = some b ∧ (∀ j, w.frozen? ⟨q, j, none⟩ = false) := ⟨h.cell rfl, h.cell rfl, h.free⟩

/-- The loop over declarations. -/
def DeAt (p q0 q : Nat) (x : Pr (List Decl)) (w : World) (g : Nat) (wr : World) : Prop :=
  ∃ l acc dv, l.length = g ∧ EndT l ∧ acc.length + g ≤ 10000 ∧ Is (fun f => declsP f l acc) x ∧ PAt p l wr ∧ Bk q #[dv, .slice none 0 0] 58 wr ∧ Bk q0 #[.slice none 0 0, .slice none 0 0] 58 wr ∧ DeclsV (q + 1) acc dv wr ∧ Sep.Fr (fun k => k = p) w wr

theorem fr_set1 (w : World) (q j : Nat) (v : Value) : Sep.Fr (fun k => k = q) w (w.setCell ⟨q, j, none⟩ v) := Sep.Fr.setCell (S := fun k => k = q) (.refl _ _) ⟨q, j, none⟩ rfl v

/-- Behind the first rule; the loop over the others. -/
def SrcMid (p q : Nat) (dvv : Value) (acc : List Rul) (l : List Tok) (w2 wr : World) : Prop :=
  ∃ rv, PAt p l wr ∧ Bk q #[dvv, rv] 58 wr ∧ RulesV w2.heap.size acc rv wr ∧ Sep.Fr (fun k => k = p ∨ k = q) w2 wr
def RuAt (p q : Nat) (dvv : Value) (x : Pr (List Rul)) (w2 : World) (g : Nat) (wr : World) : Prop :=
  ∃ l acc, l.length = g ∧ EndT l ∧ acc.length + g ≤ 10000 ∧ Is (fun f => rulesP f l acc) x ∧ SrcMid p q dvv acc l w2 wr

theorem rule_end {l r : List Tok} {R : Rul} (h : Is (fun f => ruleP f l) (.ok R r)) (hl : EndT l) : EndT r ∧ r.length < l.length := by
  obtain ⟨x, hx, h2⟩ := rule_is hl
  have := Is.one (fun a b hab => ruleP_le a b l hab) h hx
  exact h2 R r this.symm

theorem fr_both {p q : Nat} {w2 w w' : World} (h : Sep.Fr (fun k => k = p ∨ k = q) w2 w) (k : Sep.Fr (fun k => k = p) w w') : Sep.Fr (fun k => k = p ∨ k = q) w2 w' := h.trans k fun b hb => .inl (.inl hb)
theorem fr_bothq {p q : Nat} {w2 w w' : World} (h : Sep.Fr (fun k => k = p ∨ k = q) w2 w) (k : Sep.Fr (fun k => k = q) w w') : Sep.Fr (fun k => k = p ∨ k = q) w2 w' := h.trans k fun b hb => .inl (.inr hb)
theorem fr_bothb {p q : Nat} {w2 w w' : World} (h : Sep.Fr (fun k => k = p ∨ k = q) w2 w) (k : Below w.heap.size w w') : Sep.Fr (fun k => k = p ∨ k = q) w2 w' := h.trans (Sep.Fr.of_below (S := fun k => k = p) k) fun b hb => .inl (.inl hb)

theorem fr_set2 (w : World) (q : Nat) (a b : Value) : Sep.Fr (fun k => k = q) w ((w.setCell ⟨q, 0, none⟩ a).setCell ⟨q, 1, none⟩ b) :=
  (Sep.Fr.setCell (S := fun k => k = q) (.refl _ _) ⟨q, 0, none⟩ rfl a).setCell ⟨q, 1, none⟩ rfl b

set_option maxRecDepth 100000 in
set_option maxHeartbeats 16000000 in
theorem source_any (p : Nat) (l : List Tok) (x : Pr Src) (w : World) (hx : Is (fun f => sourceP f l) x) (h : PAt p l w) (hl : EndT l) (hlen : l.length ≤ 10000) :
    Calls Tryz.prog 29 #[.pointer (some ⟨p, 0, none⟩)] w (Gave p (SrcV w.heap.size) x w) := by
  have hp := h.lt
  have hne := endT_ne hl
  obtain ⟨xD, hID, hN1, hAF⟩ := src_parts hx
  have N1 := Lib.hid hN1
  have AF := Lib.hid hAF
  have H := Lib.hid h
  have HID := Lib.hid hID
  have HL := Lib.hid hl
  obtain ⟨i0, hi, hz0, hz1, hz2⟩ := info_parts info_decl
  obtain ⟨j0, hj, hy0, hy1, hy2⟩ := info_parts info_rule
  have Z0 := Lib.hid ((Bk.new w #[.slice none 0 0, .slice none 0 0] 58 _ rfl).went (Gr.boxed _ (.cells #[.slice none 0 0, .slice none 0 0] 58)))
  have M0 := Lib.hid (Bk.new (w.alloc (.cells #[.slice none 0 0, .slice none 0 0] 58)) #[.slice none 0 0, .slice none 0 0] 58 (w.heap.size + 1) (by simp))
  clear hx h hl hN1 hAF hID
  go_enter Tryz.func29, Tryz.ntmps29
  go_wp2
  go_loopg [] l.length (fun g wr => DeAt p w.heap.size (w.heap.size + 1) xD w g wr)
  case atStart => exact ⟨l, [], _, rfl, HL.out, by simpa using hlen, HID.out, H.out.went hne (Gr.step (Gr.boxed _ _) (Gr.boxed _ _)), M0.out, Z0.out, DeclsV.nil _ _, Sep.Fr.of_below (Gr.step (Gr.boxed _ _) (Gr.boxed _ _))⟩
  case round =>
    clear HID HL H M0 Z0 hlen hne l
    obtain ⟨l, acc, dv, rfl, hl, hag, hI, hP, hM, hZ, hD, hF⟩ := hrel
    obtain ⟨L, rfl, hO, hTL, hAP⟩ := hD
    obtain ⟨a, c, rfl⟩ := row_shape hO
    have hLb : L.length ≤ 10000 := by simp at hag; omega
    have O := Lib.hid hO
    have TL := Lib.hid hTL
    have AP := Lib.hid hAP
    have D := Lib.hid (show DeclsV (w.heap.size + 1 + 1) (L.map Prod.fst) (.slice a L.length c) wr from ⟨L, rfl, hO, hTL, hAP⟩)
    clear hO hTL hAP
    have hwr : w.heap.size ≤ wr.heap.size := hF.size
    have hqr : w.heap.size + 1 < wr.heap.size := hM.lt
    cases l with
    | nil => exact absurd rfl (endT_ne hl)
    | cons t0 l0 =>
      have P := Lib.hid hP
      have M := Lib.hid hM
      have Z := Lib.hid hZ
      have F := Lib.hid hF
      have I := Lib.hid hI
      have HL := Lib.hid hl
      have NX := Lib.hid (fun w1 (hb : Below wr.heap.size wr w1) b (hk : KindsAt b [6] w1) => next_any p b 1 1 [6] t0 l0 w1 rfl (by decide) hk (hP.went (by simp) hb))
      have hin : inK [6] t0.k = (t0.k == 6) := by simp only [inK, List.contains_cons, List.contains_nil, Bool.or_false]
      rw [hin] at NX
      clear hP hM hZ hF hI hl hin
      by_cases hk : t0.k = 6
      · obtain rfl := decls_stop I.out hk
        have A := Lib.hid (AF.out _ _ rfl)
        rw [show (t0.k == 6) = true by simpa using hk] at NX
        have h6 : takeP [6] (t0 :: l0) = .ok t0 l0 := by
          rw [takeP_cons, show inK [6] t0.k = true by rw [hk]; rfl, if_pos rfl]
        obtain ⟨xR, hIR, hNR, hAR⟩ := A.out.2 t0 l0 h6
        have hl0 : EndT l0 := endT_cons HL.out (by rw [hk]; decide)
        have IR := Lib.hid hIR
        have NR := Lib.hid hNR
        have AR := Lib.hid hAR
        have HL0 := Lib.hid hl0
        have b1 := Gr.boxed wr (.cells #[.int .i64 6] 3)
        have b2 := Gr.step b1 (Gr.boxed _ (.cells #[.int .i64 6] 3))
        have B1 := Lib.hid b1
        have B2 := Lib.hid b2
        have K1 := Lib.hid (kinds1 6 wr _ rfl 3)
        have K2 := Lib.hid (kinds1 6 (wr.alloc (.cells #[.int .i64 6] 3)) (wr.heap.size + 1) (by simp) 3)
        have T6 := Lib.hid (fun b (hk : KindsAt b [6] ((wr.alloc (.cells #[.int .i64 6] 3)).alloc (.cells #[.int .i64 6] 3))) => take_any p b 1 1 [6] (t0 :: l0) _ _ h6 rfl (by decide) hk (P.out.went (by simp) b2) HL.out rfl)
        have hag2 : L.length + l0.length ≤ 10000 := by simp at hag; omega
        clear AF N1 hk I A hIR hNR hAR hl0 b1 b2 h6
        go_wp2_with (first
          | (go_at_call 56; refine (NX.out _ B1.out _ K1.out).mono ?_; rintro e w' ⟨rfl, rfl⟩)
          | (go_at_call 58; refine (T6.out _ K2.out).mono ?_; rintro e w2 ⟨v2, rfl, rfl, hP2, hF2⟩; have P2 := Lib.hid hP2; have F2 := Lib.hid (fr_went (fr_below F.out B2.out) hp hF2); have M2 := Lib.hid ((M.out.went B2.out).fr hF2 (by omega)); have Z2 := Lib.hid ((Z.out.went B2.out).fr hF2 (by omega)); have D2 := Lib.hid ((D.out.went B2.out).fr hF2 (fun b hb e => by omega)); clear hP2 hF2))
        clear NX P M Z O TL AP D F B1 B2 K1 K2 T6
        have hp2 : p < w2.heap.size := P2.out.lt
        have hq2 : w.heap.size + 1 < w2.heap.size := M2.out.lt
        have NP := Lib.hid (show ∀ b, w2.heap.size ≤ b → ¬ (b = p) from fun b hb e => by omega)
        have RC := Lib.hid (fun w1 (hP : PAt p l0 w1) => rule_any p l0 xR w1 IR.out hP HL0.out (by omega))
        have FB := Lib.hid (show Sep.Fr (fun k => k = p ∨ k = w.heap.size + 1) w2 w2 from .refl _ _)
        obtain ⟨z0, z1, zf⟩ := M2.out.two
        cases xR with
        | out => obtain ⟨f, hf, ho⟩ := IR.out; exact absurd rfl ho
        | no e q =>
          obtain rfl := NR.out e q rfl
          have RC1 := Lib.hid (RC.out w2.drew (P2.out.went (endT_ne HL0.out) (Gr.drawn _)))
          clear IR NR AR RC NP FB
          go_region_with (go_at_call 59; (with_reducible refine RC1.out.mono ?_); rintro e w3 ⟨rfl, hF3⟩; refine dead (P := Tryz.prog) w ⟨rfl, rfl, ?_⟩ ?_; exact fr_went (fr_below F2.out (Gr.drawn _)) hp hF3)
          all_goals trivial
        | ok R2 r3 =>
          obtain ⟨xS, hIS, hNS, hAS⟩ := AR.out R2 r3 rfl
          obtain ⟨hr3, hr3l⟩ := rule_end IR.out HL0.out
          have IS := Lib.hid hIS
          have NS := Lib.hid hNS
          have AS := Lib.hid hAS
          have HR3 := Lib.hid hr3
          clear hIS hNS hAS hr3 IR NR AR
          go_cut [] (fun wx => SrcMid p (w.heap.size + 1) (.slice a L.length c) [R2] r3 w2 wx)
          case first =>
            obtain ⟨WW, hWW⟩ : ∃ WW, WW = w2 := ⟨_, rfl⟩
            have MW := M2
            have FW := Lib.hid (fr_bothb FB.out (Gr.drawn w2))
            have OW := Lib.hid (World.ownsRow_nil w2.drew w2.heap.size 94 4)
            have RC1 := Lib.hid (RC.out w2.drew (P2.out.went (endT_ne HL0.out) (Gr.drawn _)))
            have HBW := Lib.hid (show w2.heap.size ≤ w2.drew.heap.size from Nat.le_refl _)
            have TW := Lib.hid (show ∀ x ∈ ([] : List (Rul × Value)), ∃ lo hi, w2.heap.size ≤ lo ∧ hi ≤ w2.drew.heap.size ∧ SidesH lo hi x.1.sides x.2 w2.drew ∧ ∀ g, (Value.slice none 0 0).ownBlock = some g → g < lo ∨ hi ≤ g from fun x hx => by cases hx)
            clear hWW RC
            go_region_law (first
            | (refine step_append_rows _ (by rfl) _ _ 56 (by rfl) w2.heap.size 94 j0 (.agg #[.int .i64 0, .string ByteArray.empty, .int .i64 0, .slice none 0 0]) 4 56 Tryz.underlying56 hj hy0 hy1 hy2 rfl (by decide) (.slice none 0 0) 0 [] (by rfl) (Sep.ownsRow_at O3.out fun g hg => Below.heap_alloc _ _ _ (O3.out.lt g hg).2) _ (.slice (some ⟨w3.heap.size, 0, none⟩) 1 1) 1 (rc (R2, .slice a3 R2.sides.length c3)) (by rfl) (rule_one w2.heap.size w3.heap.size (R2, .slice a3 R2.sides.length c3) w3 rfl (by omega)) (by simp [rc, Value.oneCell']) (by unfold maxLen; omega) (by omega) (by simp; omega) ?_; intro v4 w4 hown4 hg4 hloc4; obtain ⟨a4, c4, rfl⟩ := row_shape hown4; have b4 := Gr.boxed w3 (.cells #[.int .i64 R2.left.k, .string R2.left.s, .int .i64 (R2.left.at_ : Int), .slice a3 R2.sides.length c3] 94); have r4 : ∀ k, ((.slice none 0 0) : Value).ownBlock = some k → w2.heap.size ≤ k := (fun k hk => (O3.out.lt k hk).1); have A4 := Lib.hid (RulesV.snoc (lo := w2.drew.heap.size) OW.out TW.out HK.out (Nat.le_refl _) HS3.out T3.out HBW.out hown4 hg4 hloc4); have M4 := Lib.hid ((M3.out.went b4).grown hg4 (fun k hk => by have := r4 k hk; omega)); obtain ⟨z0, z1, zf⟩ := M4.out.two; have F4 := Lib.hid ((fr_bothb F3.out b4).grown hg4 (fun k hk => .inr (r4 k hk))); have P4 := Lib.hid ((P3.out.went (endT_ne HR3.out) b4).fr (endT_ne HR3.out) (Sep.Fr.grown (S := fun k => Value.ownBlock _ = some k) (.refl _ _) hg4 fun k hk => .inl hk) (fun b hb e => by have := r4 b e; omega)); clear hown4 hg4 hloc4 b4 r4)
            | (go_simp; go_at_call 59; (with_reducible refine RC1.out.mono ?_); rintro e w3 ⟨v3, rfl, ⟨nv, rfl, hT3⟩, hP3, hF3⟩; obtain ⟨a3, c3, rfl⟩ := hT3.len; have T3 := Lib.hid hT3; have P3 := Lib.hid hP3; have M3 := Lib.hid ((MW.out.went (Gr.drawn _)).fr hF3 (by omega)); have F3 := Lib.hid (fr_both FW.out hF3); obtain ⟨z0, z1, zf⟩ := M3.out.two; have HS3 := Lib.hid hF3.size; have hs3 : w2.heap.size ≤ w3.heap.size := hF3.size; have HK := Lib.hid (fun g (h1 : w2.heap.size ≤ g) (h2 : g < w2.drew.heap.size) => hF3.block g h2 (NP.out g h1)); have O3 := Lib.hid (Sep.ownsRow_at OW.out fun g hg => HK.out g (OW.out.lt g hg).1 (OW.out.lt g hg).2); have hw3 : w.heap.size + 1 < w3.heap.size := (by omega); clear hT3 hP3 hF3))
            all_goals
              go_wp2
              go_meet
              case rel => exact ⟨.slice a4 (0 + 1) c4, pat_new P4.out (endT_ne HR3.out) (fr_set1 _ _ _ _) (by omega), M4.out.set (j := 1) (by simp) _, A4.out.fr (fr_set1 _ _ _ _) (fun b hb e => by omega), fr_bothq F4.out (fr_set1 _ _ _ _)⟩
          case rest =>
            clear z0 z1 zf RC P2
            have C := Lib.hid hcut
            clear hcut
            go_wp2
            go_loopg [] r3.length (fun g wr => RuAt p (w.heap.size + 1) (.slice a L.length c) xS w2 g wr)
            case atStart => exact ⟨r3, [R2], rfl, HR3.out, by simp; omega, IS.out, C.out⟩
            case round =>
              clear C IS HR3
              obtain ⟨l5, acc, rfl, hl5, hag5, hI5, hC⟩ := hrel
              obtain ⟨rv, hP, hM, hR, hF⟩ := hC
              obtain ⟨RL, rfl, hO, hT⟩ := hR
              obtain ⟨ra, rcc, rfl⟩ := row_shape hO
              have hLb5 : RL.length ≤ 10000 := by simp at hag5; omega
              have hwr2 : w2.heap.size ≤ wr.heap.size := hF.size
              cases l5 with
              | nil => exact absurd rfl (endT_ne hl5)
              | cons t1 l6 =>
                have P := Lib.hid hP
                have M := Lib.hid hM
                have RV := Lib.hid (show RulesV w2.heap.size (RL.map Prod.fst) (.slice ra RL.length rcc) wr from ⟨RL, rfl, hO, hT⟩)
                have O := Lib.hid hO
                have TT := Lib.hid hT
                have F := Lib.hid hF
                have I := Lib.hid hI5
                have HL5 := Lib.hid hl5
                have NX := Lib.hid (fun w1 (hb : Below wr.heap.size wr w1) b (hk : KindsAt b [0] w1) => next_any p b 1 1 [0] t1 l6 w1 rfl (by decide) hk (hP.went (by simp) hb))
                have hin : inK [0] t1.k = (t1.k == 0) := by simp only [inK, List.contains_cons, List.contains_nil, Bool.or_false]
                rw [hin] at NX
                have b1 := Gr.boxed wr (.cells #[.int .i64 0] 3)
                have B1 := Lib.hid b1
                have K1 := Lib.hid (kinds1 0 wr _ rfl 3)
                clear hP hM hO hT hF hI5 hl5 hin
                by_cases hk : t1.k = 0
                · obtain rfl := rules_stop I.out hk
                  obtain rfl := AS.out _ _ rfl
                  rw [show (t1.k == 0) = true by simpa using hk] at NX
                  have M2 := Lib.hid (M.out.went b1)
                  have Z3 := Lib.hid ((Z2.out.fr F.out (by omega)).went b1)
                  obtain ⟨z0, z1, zf⟩ := M2.out.two
                  obtain ⟨y0, y1, yf⟩ := Z3.out.two
                  have P2 := Lib.hid (P.out.went (by simp) b1)
                  have F3 := Lib.hid (fr_bothb F.out b1)
                  have D3 := Lib.hid (D2.out.fr F3.out (fun b hb e => by omega))
                  have R3 := Lib.hid (RV.out.went b1)
                  clear hk NS AS b1 I
                  go_wp2_with (go_at_call 56; refine (NX.out _ B1.out _ K1.out).mono ?_; rintro e w' ⟨rfl, rfl⟩)
                  refine bodyPost_ret (v := .agg #[.slice a L.length c, .slice ra RL.length rcc]) (by simp [results, Tryz.results29, go_sem, yf, y0, y1, hqr]) rfl ⟨_, rfl, ⟨_, _, rfl, ?_, ?_⟩, ?_, ?_⟩
                  · exact (D3.out.fr (fr_set2 _ _ _ _) fun b hb e => by omega).mono (by omega)
                  · exact (R3.out.fr (fr_set2 _ _ _ _) fun b hb e => by omega).mono (by omega)
                  · exact pat_new P2.out (by simp) (fr_set2 _ _ _ _) hp
                  · exact fr_new (F2.out.trans F3.out (fun b hb => hb.imp id (fun h => by omega))) (fr_set2 _ _ _ _) (Nat.le_refl _)
                · rw [show (t1.k == 0) = false by simpa using hk] at NX
                  obtain ⟨xd, hxd, hxe⟩ := rule_is HL5.out
                  have RC := Lib.hid (fun w1 (hP : PAt p (t1 :: l6) w1) => rule_any p (t1 :: l6) xd w1 hxd hP HL5.out (by simp at hag5 ⊢; omega))
                  have M2 := Lib.hid (M.out.went b1)
                  obtain ⟨z0, z1, zf⟩ := M2.out.two
                  have P2 := Lib.hid (P.out.went (by simp) b1)
                  have F3 := Lib.hid (fr_bothb F.out b1)
                  have hW : (wr.alloc (.cells #[.int .i64 0] 3)).heap.size = wr.heap.size + 1 := by simp
                  have HWS := Lib.hid hW
                  clear hW
                  cases xd with
                  | out => obtain ⟨f, hf, ho⟩ := hxd; exact absurd rfl ho
                  | no e q =>
                    obtain rfl := rules_no I.out hk HL5.out hxd
                    obtain rfl := NS.out e q rfl
                    have RC1 := Lib.hid (RC.out ((wr.alloc (.cells #[.int .i64 0] 3)).drew) (P2.out.went (by simp) (Gr.drawn _)))
                    have FF := Lib.hid (show Sep.Fr (fun k => k = p) w (wr.alloc (.cells #[.int .i64 0] 3)).drew from (F2.out.trans F3.out (fun b hb => hb.imp id (fun h => by omega))).drew)
                    clear hxd hk NS AS RC b1 I
                    go_wp2_with (go_at_call 56; refine (NX.out _ B1.out _ K1.out).mono ?_; rintro e w' ⟨rfl, rfl⟩)
                    go_region_with (go_at_call 59; (with_reducible refine RC1.out.mono ?_); rintro e w3 ⟨rfl, hF3⟩; refine dead (P := Tryz.prog) w ⟨rfl, rfl, ?_⟩ ?_; exact fr_went FF.out hp hF3)
                    all_goals trivial
                  | ok R2 r4 =>
                    obtain ⟨hr4, hr4l⟩ := hxe R2 r4 rfl
                    have HR3 := Lib.hid hr4
                    have I2 := Lib.hid (rules_more I.out hk hxd)
                    have O2 := Lib.hid (Sep.ownsRow_at O.out fun g hg => b1.block g (O.out.lt g hg).2)
                    have TW0 := Lib.hid (show ∀ x ∈ RL, ∃ lo hi, w2.heap.size ≤ lo ∧ hi ≤ (wr.alloc (.cells #[.int .i64 0] 3)).heap.size ∧ SidesH lo hi x.1.sides x.2 (wr.alloc (.cells #[.int .i64 0] 3)) ∧ ∀ g, (Value.slice ra RL.length rcc).ownBlock = some g → g < lo ∨ hi ≤ g from fun x hx => by
                      obtain ⟨lo, hi, g1, g2, g3, g4⟩ := TT.out x hx
                      exact ⟨lo, hi, g1, Nat.le_trans g2 b1.size, g3.at fun g _ _ hl => b1.block g hl, g4⟩)
                    clear hxd hk NS AS hr4 hxe b1 I
                    go_wp2_with (go_at_call 56; refine (NX.out _ B1.out _ K1.out).mono ?_; rintro e w' ⟨rfl, rfl⟩)
                    clear B1 K1 NX
                    generalize (wr.alloc (.cells #[.int .i64 0] 3)) = W at *
                    have hWs : wr.heap.size < W.heap.size := by rw [HWS.out]; omega
                    have RC1 := Lib.hid (RC.out W.drew (P2.out.went (by simp) (Gr.drawn _)))
                    have MW := M2
                    have FW := Lib.hid (fr_bothb F3.out (Gr.drawn W))
                    have OW := Lib.hid (Sep.ownsRow_at (w' := W.drew) O2.out fun g hg => rfl)
                    have HBW := Lib.hid (show w2.heap.size ≤ W.drew.heap.size from by
                      have h7 : W.drew.heap.size = W.heap.size := rfl
                      omega)
                    have TW := Lib.hid (show ∀ x ∈ RL, ∃ lo hi, w2.heap.size ≤ lo ∧ hi ≤ W.drew.heap.size ∧ SidesH lo hi x.1.sides x.2 W.drew ∧ ∀ g, (Value.slice ra RL.length rcc).ownBlock = some g → g < lo ∨ hi ≤ g from fun x hx => by
                      obtain ⟨lo, hi, g1, g2, g3, g4⟩ := TW0.out x hx
                      exact ⟨lo, hi, g1, g2, g3.at fun g _ _ hl => rfl, g4⟩)
                    clear RC TW0
                    go_region_law (first
                      | (refine step_append_rows _ (by rfl) _ _ 56 (by rfl) w2.heap.size 94 j0 (.agg #[.int .i64 0, .string ByteArray.empty, .int .i64 0, .slice none 0 0]) 4 56 Tryz.underlying56 hj hy0 hy1 hy2 rfl (by decide) (.slice ra RL.length rcc) RL.length (RL.flatMap rc) (by rfl) (Sep.ownsRow_at O3.out fun g hg => Below.heap_alloc _ _ _ (O3.out.lt g hg).2) _ (.slice (some ⟨w3.heap.size, 0, none⟩) 1 1) 1 (rc (R2, .slice a3 R2.sides.length c3)) (by rfl) (rule_one w2.heap.size w3.heap.size (R2, .slice a3 R2.sides.length c3) w3 rfl (by omega)) (by simp [rc, Value.oneCell']) (by unfold maxLen; omega) (by omega) (by simp; omega) ?_; intro v4 w4 hown4 hg4 hloc4; obtain ⟨a4, c4, rfl⟩ := row_shape hown4; have b4 := Gr.boxed w3 (.cells #[.int .i64 R2.left.k, .string R2.left.s, .int .i64 (R2.left.at_ : Int), .slice a3 R2.sides.length c3] 94); have r4 : ∀ k, ((.slice ra RL.length rcc) : Value).ownBlock = some k → w2.heap.size ≤ k := (fun k hk => (O3.out.lt k hk).1); have A4 := Lib.hid (RulesV.snoc (lo := W.drew.heap.size) OW.out TW.out HK.out (Nat.le_refl _) HS3.out T3.out HBW.out hown4 hg4 hloc4); have M4 := Lib.hid ((M3.out.went b4).grown hg4 (fun k hk => by have := r4 k hk; omega)); obtain ⟨z0, z1, zf⟩ := M4.out.two; have F4 := Lib.hid ((fr_bothb F3.out b4).grown hg4 (fun k hk => .inr (r4 k hk))); have P4 := Lib.hid ((P3.out.went (endT_ne HR3.out) b4).fr (endT_ne HR3.out) (Sep.Fr.grown (S := fun k => Value.ownBlock _ = some k) (.refl _ _) hg4 fun k hk => .inl hk) (fun b hb e => by have := r4 b e; omega)); clear hown4 hg4 hloc4 b4 r4)
                      | (go_simp; go_at_call 59; (with_reducible refine RC1.out.mono ?_); rintro e w3 ⟨v3, rfl, ⟨nv, rfl, hT3⟩, hP3, hF3⟩; obtain ⟨a3, c3, rfl⟩ := hT3.len; have T3 := Lib.hid hT3; have P3 := Lib.hid hP3; have M3 := Lib.hid ((MW.out.went (Gr.drawn _)).fr hF3 (by omega)); have F3 := Lib.hid (fr_both FW.out hF3); obtain ⟨z0, z1, zf⟩ := M3.out.two; have HS3 := Lib.hid hF3.size; have hs3 : W.heap.size ≤ w3.heap.size := hF3.size; have HK := Lib.hid (fun g (h1 : w2.heap.size ≤ g) (h2 : g < W.drew.heap.size) => hF3.block g h2 (NP.out g h1)); have O3 := Lib.hid (Sep.ownsRow_at OW.out fun g hg => HK.out g (OW.out.lt g hg).1 (OW.out.lt g hg).2); have hw3 : w.heap.size + 1 < w3.heap.size := (by omega); clear hT3 hP3 hF3))
                    all_goals
                      go_wp2
                      go_roundg r4.length
                      case rel => exact ⟨r4, RL.map Prod.fst ++ [R2], rfl, HR3.out, by have h5 := hr4l; simp at hag5 h5 ⊢; omega, I2.out, .slice a4 (RL.length + 1) c4, pat_new P4.out (endT_ne HR3.out) (fr_set1 _ _ _ _) (by omega), M4.out.set (j := 1) (by simp) _, A4.out.fr (fr_set1 _ _ _ _) (fun b hb e => by omega), fr_bothq F4.out (fr_set1 _ _ _ _)⟩
                      case measure => exact hr4l
      · rw [show (t0.k == 6) = false by simpa using hk] at NX
        obtain ⟨xd, hxd⟩ : ∃ xd, declP (t0 :: l0) = xd := ⟨_, rfl⟩
        have DC := Lib.hid (fun w1 (hP : PAt p (t0 :: l0) w1) => decl_any p (t0 :: l0) xd w1 hxd hP HL.out (by omega))
        have b1 := Gr.boxed wr (.cells #[.int .i64 6] 3)
        cases xd with
        | out => exact absurd hxd (declP_in HL.out)
        | no e q =>
          obtain rfl := decls_no I.out hk hxd
          obtain rfl := N1.out e q rfl
          obtain ⟨z0, z1, zf⟩ := (M.out.went b1).two
          have F1 := Lib.hid (fr_below F.out b1)
          have DC1 := Lib.hid (DC.out ((wr.alloc (.cells #[.int .i64 6] 3)).drew) (P.out.went (by simp) (Gr.step b1 (Gr.drawn _))))
          clear hxd hk AF N1 DC b1
          go_wp2_with (go_at_call 56; refine (NX.out _ (Gr.boxed _ _) _ ?_).mono ?_; exact kinds1 6 wr _ rfl _; rintro e w' ⟨rfl, rfl⟩)
          go_region_with (go_at_call 57; (with_reducible refine DC1.out.mono ?_); rintro e w3 ⟨rfl, hF3⟩; refine dead (P := Tryz.prog) w ⟨rfl, rfl, ?_⟩ ?_; exact fr_went (fr_below F1.out (Gr.drawn _)) hp hF3)
          all_goals trivial
        | ok d r =>
          obtain ⟨hr, hrl⟩ := declP_end hxd HL.out
          have HR := Lib.hid hr
          have I2 := Lib.hid (decls_more I.out hk hxd)
          have b1 := Gr.boxed wr (.cells #[.int .i64 6] 3)
          have M2 := Lib.hid (M.out.went b1)
          have Z2 := Lib.hid (Z.out.went b1)
          have P2 := Lib.hid (P.out.went (by simp) b1)
          have F2 := Lib.hid (fr_below F.out b1)
          have O2 := Lib.hid (Sep.ownsRow_at O.out fun g hg => b1.block g (O.out.lt g hg).2)
          have TL2 := Lib.hid (fun x hx => (TL.out x hx).went b1)
          have K2 := Lib.hid (kinds1 6 wr _ rfl 3)
          have B1 := Lib.hid b1
          have hW : (wr.alloc (.cells #[.int .i64 6] 3)).heap.size = wr.heap.size + 1 := by simp
          have HWS := Lib.hid hW
          clear hxd hk AF N1 hr b1 hW
          go_wp2_with (go_at_call 56; refine (NX.out _ B1.out _ K2.out).mono ?_; rintro e w' ⟨rfl, rfl⟩)
          clear B1 K2
          generalize (wr.alloc (.cells #[.int .i64 6] 3)) = W at *
          have hWs : wr.heap.size < W.heap.size := by rw [HWS.out]; omega
          obtain ⟨z0, z1, zf⟩ := M2.out.two
          have DC1 := Lib.hid (DC.out W.drew (P2.out.went (by simp) (Gr.drawn _)))
          have hbd : Sep.Fr (fun k => k = p) W W.drew := (Sep.Fr.refl _ _).drew
          have NP := Lib.hid (show ∀ b, w.heap.size + 1 + 1 ≤ b → ¬ (b = p) from fun b hb e => by omega)
          have NWf := Lib.hid (show ∀ g, W.drew.heap.size ≤ g → (Value.slice a L.length c).ownBlock ≠ some g from fun g h e => by
            have h6 := (O2.out.lt g e).2
            have h7 : W.drew.heap.size = W.heap.size := rfl
            omega)
          have HBW := Lib.hid (show w.heap.size + 1 + 1 ≤ W.drew.heap.size from by
            have h7 : W.drew.heap.size = W.heap.size := rfl
            omega)
          go_region_law (first
            | (refine step_append_rows _ (by rfl) _ _ 55 (by rfl) (w.heap.size + 1 + 1) 90 i0 (.agg #[.int .i64 0, .string ByteArray.empty, .int .i64 0, .slice none 0 0]) 4 56 Tryz.underlying55 hi hz0 hz1 hz2 rfl (by decide) (.slice a L.length c) L.length (L.flatMap dc) (by rfl) (Sep.ownsRow_at O3.out fun g hg => Below.heap_alloc _ _ _ (O3.out.lt g hg).2) _ (.slice (some ⟨w3.heap.size, 0, none⟩) 1 1) 1 (dc (d, .slice a3 d.names.length c3)) (by rfl) (decl_one (w.heap.size + 1 + 1) w3.heap.size (d, .slice a3 d.names.length c3) w3 rfl (by omega)) (by simp [dc, Value.oneCell']) (by unfold maxLen; omega) (by omega) (by simp; omega) ?_; intro v4 w4 hown4 hg4 hloc4; obtain ⟨a4, c4, rfl⟩ := row_shape hown4; have b4 := Gr.boxed w3 (.cells #[.int .i64 d.mark.k, .string d.mark.s, .int .i64 (d.mark.at_ : Int), .slice a3 d.names.length c3] 90); have r4 : ∀ k, (Value.slice a L.length c).ownBlock = some k → w.heap.size + 1 + 1 ≤ k := (fun k hk => (O3.out.lt k hk).1); have A4 := Lib.hid (DeclsV.snoc O3.out TL3.out AP.out (Below.refl _ _) T3.out NW.out hown4 hg4 hloc4); have M4 := Lib.hid (((M2.out.fr L3.out (by omega)).went b4).grown hg4 (fun k hk => by have := r4 k hk; omega)); obtain ⟨z0, z1, zf⟩ := M4.out.two; have Z4 := Lib.hid (((Z2.out.fr L3.out (by omega)).went b4).grown hg4 (fun k hk => by have := r4 k hk; omega)); have F4 := Lib.hid ((((F2.out.trans L3.out fun _ h => .inl h)).alloc _).grown hg4 (fun k hk => .inr (by have := r4 k hk; omega))); have P4 := Lib.hid ((P3.out.went (endT_ne HR.out) b4).fr (endT_ne HR.out) (Sep.Fr.grown (S := fun k => Value.ownBlock _ = some k) (.refl _ _) hg4 fun k hk => .inl hk) (fun b hb e => by have := r4 b e; omega)); clear hown4 hg4 hloc4 b4 r4)
            | (go_simp; go_at_call 57; (with_reducible refine DC1.out.mono ?_); rintro e w3 ⟨v3, rfl, ⟨nv, rfl, hT3⟩, hP3, hF3⟩; obtain ⟨a3, c3, rfl⟩ := row_shape hT3; have l3 : Sep.Fr (fun k => k = p) W w3 := hbd.trans hF3 (fun _ h => .inl h); have L3 := Lib.hid l3; have T3 := Lib.hid (hT3.mono (b' := w.heap.size + 1 + 1) HBW.out); have P3 := Lib.hid hP3; obtain ⟨z0, z1, zf⟩ := (M2.out.fr l3 (by omega)).two; have hs3 := l3.size; have O3 := Lib.hid (Sep.ownsRow_at O2.out fun g hg => l3.block g (O2.out.lt g hg).2 (NP.out g (O2.out.lt g hg).1)); have TL3 := Lib.hid (fun x hx => (TL2.out x hx).fr l3 NP.out); have NW := Lib.hid (fun g hg => NWf.out g (hT3.lt g hg).1); have hw3 : w.heap.size + 1 < w3.heap.size := (by omega); clear hT3 hP3 hF3 l3))
          all_goals
            go_wp2
            go_roundg r.length
            case rel => exact ⟨r, L.map Prod.fst ++ [d], .slice a4 (L.length + 1) c4, rfl, HR.out, by have h5 := hrl; simp at hag h5 ⊢; omega, I2.out, pat_new P4.out (endT_ne HR.out) (fr_set1 _ _ _ _) (by omega), M4.out.set (j := 0) (by simp) _, Z4.out.fr (fr_set1 _ _ _ _) (by omega), A4.out.fr (fr_set1 _ _ _ _) (fun b hb e => by omega), fr_new F4.out (fr_set1 _ _ _ _) (by omega)⟩
            case measure => simp at hrl ⊢; omega

end Go.Proofs.YtimfiaphhomelaaGreat.Rd
