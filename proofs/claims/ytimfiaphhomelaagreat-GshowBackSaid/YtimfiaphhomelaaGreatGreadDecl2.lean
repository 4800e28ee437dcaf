/-
  The parser: a declaration of terminals; a declaration, whatever stands there. Condition: the tokens end with the end.
-/
import Derived.Test.YtimfiaphhomelaaGreatGreadDecl
import Derived.Deep.RegionHeld3
namespace Go.Proofs.YtimfiaphhomelaaGreat.Rd
open Go.RowKit Go.Maps
open Go.Proofs.YtimfiaphhomelaaGreat.Tk (Tok tcs cells cells_length cells_snoc Just info_tok cells_three_new)
set_option linter.unusedVariables false
set_option linter.unusedSimpArgs false

theorem cells_cons (t : Tok) (l : List Tok) : cells (t :: l) = tcs t ++ cells l := by simp [cells]
theorem cells_one (l : List Tok) : ∀ u ∈ cells l, u.oneCell' = true := by
  intro u hu
  unfold cells at hu
  obtain ⟨t, _, ht⟩ := List.mem_flatMap.1 hu
  simp only [tcs, List.mem_cons, List.not_mem_nil, or_false] at ht
  rcases ht with rfl | rfl | rfl <;> rfl
theorem Toks.mono {b b' : Nat} {S : List Tok} {v : Value} {w : World} (h : Toks b S v w) (hb : b' ≤ b) : Toks b' S v w := by
  obtain ⟨h1, h2⟩ := h
  refine ⟨h1, h2.imp id ?_⟩
  rintro ⟨g, cap, cur, h3, h4, h5⟩
  exact ⟨g, cap, cur, h3, Nat.le_trans hb h4, h5⟩
theorem row_shape {w : World} {base size n : Nat} {e : TypeId} {v : Value} {xs : List Value} (h : w.ownsRow base e size v n xs) : ∃ a cap, v = .slice a n cap := by
  rcases h.2 with ⟨rfl, rfl⟩ | ⟨g, cap, cur, rfl, _⟩
  · exact ⟨_, _, rfl⟩
  · exact ⟨_, _, rfl⟩
theorem two_of {p q : Nat} {W w' : World} (h : Sep.Fr (fun k => k = p) W w') : Sep.Fr (fun k => k = p ∨ k = q) W w' := h.mono fun _ hk => .inl hk
theorem two_set {p q : Nat} {W w4 : World} (h : Sep.Fr (fun k => k = p) W w4) (a b c d : Value) : Sep.Fr (fun k => k = p ∨ k = q) W ((((w4.setCell ⟨q, 0, none⟩ a).setCell ⟨q, 1, none⟩ b).setCell ⟨q, 2, none⟩ c).setCell ⟨q, 3, none⟩ d) :=
  (two_of h).trans ((fr_set4 w4 q a b c d).mono (T := fun k => k = p ∨ k = q) fun _ hk => .inr hk) fun _ hk => .inl hk
theorem symsL_le (l : List Tok) : (symsL l).length ≤ l.length := (List.takeWhile_prefix symB).length_le

set_option maxRecDepth 100000 in
set_option maxHeartbeats 8000000 in
theorem decl_tok_ok (p : Nat) (l : List Tok) (m : Tok) (r : List Tok) (f : Tok) (r2 : List Tok) (w : World) (h : PAt p l w) (hl : EndT l) (h1 : takeP [7, 8] l = .ok m r) (hm : ¬ m.k = 8) (hr : EndT r) (h2 : takeP [1, 2] r = .ok f r2) (hr2 : EndT r2) (hlen : r2.length ≤ 10000) :
    Calls Tryz.prog 57 #[.pointer (some ⟨p, 0, none⟩)] w (Gave p (DeclV w.heap.size) (.ok ⟨m, f :: symsL r2⟩ (restL r2)) w) := by
  have hne := endT_ne hl
  have hnr := endT_ne hr
  have hp := h.lt
  have T1 := Lib.hid (fun w1 (hb : Below w.heap.size w w1) b (hk : KindsAt b [7, 8] w1) => take_any p b 2 2 [7, 8] l _ w1 h1 rfl (by decide) hk (h.went hne hb) hl rfl)
  have T2 := Lib.hid (fun w1 w2 (hP : PAt p r w1) (hb : Below w1.heap.size w1 w2) b (hk : KindsAt b [1, 2] w2) => take_any p b 2 2 [1, 2] r _ w2 h2 rfl (by decide) hk (hP.went hnr hb) hr rfl)
  have SY := Lib.hid (fun w1 (hP : PAt p r2 w1) => symbols_any p r2 w1 hP hr2 hlen)
  have hm8 : (m.k == 8) = false := by simpa using hm
  have HR2 := Lib.hid hr2
  have hsl : (symsL r2).length ≤ 10000 := Nat.le_trans (symsL_le r2) hlen
  have HC := Lib.hid (cells_cons f (symsL r2))
  have HC1 := Lib.hid (cells_one (symsL r2))
  have HRR := Lib.hid (endT_rest hr2)
  generalize symsL r2 = sy at SY hsl HC HC1
  generalize restL r2 = rs at SY HRR
  obtain ⟨i0, hi, hz0, hz1, hz2⟩ := info_parts info_tok
  have Z0 := Lib.hid (Bk.new w #[.int .i64 0, .string ⟨#[]⟩, .int .i64 0, .slice none 0 0] 90 _ rfl)
  clear h hne h1 h2 hm hl hr hr2
  go_enter Tryz.func57, Tryz.ntmps57
  go_wp2_with (first
    | (go_at_call 58; ((with_reducible refine (T1.out _ (Gr.step (Gr.boxed _ _) (Gr.boxed _ _)) _ ?_).mono ?_); exact kinds2 7 8 (w.alloc _) _ (by simp) _; rintro e w1 ⟨v1, rfl, rfl, hP1, hF1⟩; have P1 := Lib.hid hP1; have F1 := Lib.hid (fr_step (Gr.step (Gr.boxed _ _) (Gr.boxed _ _)) hF1); have Z1 := Lib.hid ((Z0.out.went (Gr.boxed _ _)).fr hF1 (by omega)); clear hP1 hF1))
    | (go_at_call 58; refine (T2.out w1 _ P1.out ?_ _ ?_).mono ?_; exact Gr.step (Gr.boxed _ _) (Gr.boxed _ _); exact kinds2 1 2 (w1.alloc _) _ (by simp) _; rintro e w2 ⟨v2, rfl, rfl, hP2, hF2⟩; have P2 := Lib.hid hP2; have F2 := Lib.hid (fr_went F1.out hp (fr_step (Gr.step (Gr.boxed _ _) (Gr.boxed _ _)) hF2)); have Z2 := Lib.hid ((Z1.out.went (Gr.step (Gr.boxed _ _) (Gr.boxed _ _))).fr hF2 (by omega)); have hws2 : w.heap.size < w2.heap.size := Z2.out.lt; have M2 := Lib.hid (((Bk.new w1 #[.int .i64 m.k, .string m.s, .int .i64 (m.at_ : Int)] 75 _ rfl).went (Gr.boxed _ _)).fr hF2 (by have := Z1.out.lt; omega)); have hw12 : w1.heap.size < w2.heap.size := M2.out.lt; have hws1 : w.heap.size < w1.heap.size := Z1.out.lt; clear hP2 hF2))
  have N2 := Lib.hid (Bk.new w2 #[.int .i64 f.k, .string f.s, .int .i64 (f.at_ : Int)] 75 _ rfl)
  have M3 := Lib.hid (M2.out.went (Gr.boxed _ (.cells #[.int .i64 f.k, .string f.s, .int .i64 (f.at_ : Int)] 75)))
  have Z3 := Lib.hid (Z2.out.went (Gr.boxed _ (.cells #[.int .i64 f.k, .string f.s, .int .i64 (f.at_ : Int)] 75)))
  have P3 := Lib.hid (P2.out.went (endT_ne HR2.out) (Gr.boxed _ (.cells #[.int .i64 f.k, .string f.s, .int .i64 (f.at_ : Int)] 75)))
  have F3 := Lib.hid (F2.out.alloc (.cells #[.int .i64 f.k, .string f.s, .int .i64 (f.at_ : Int)] 75))
  have hW : (w2.alloc (.cells #[.int .i64 f.k, .string f.s, .int .i64 (f.at_ : Int)] 75)).heap.size = w2.heap.size + 1 := by simp
  have HWS := Lib.hid hW
  clear hW
  generalize (w2.alloc (.cells #[.int .i64 f.k, .string f.s, .int .i64 (f.at_ : Int)] 75)) = W at *
  have hWs : w2.heap.size < W.heap.size := by rw [HWS.out]; omega
  have HQ := Lib.hid (show ∀ w', Sep.Fr (fun k => k = p ∨ k = w.heap.size) W w' → w'.cell? ⟨w1.heap.size, 0, none⟩ = some (.int .i64 m.k) ∧ w'.cell? ⟨w1.heap.size, 1, none⟩ = some (.string m.s) ∧ w'.cell? ⟨w1.heap.size, 2, none⟩ = some (.int .i64 (m.at_ : Int)) ∧ w'.cell? ⟨w2.heap.size, 0, none⟩ = some (.int .i64 f.k) ∧ w'.cell? ⟨w2.heap.size, 1, none⟩ = some (.string f.s) ∧ w'.cell? ⟨w2.heap.size, 2, none⟩ = some (.int .i64 (f.at_ : Int)) from fun w' hk => by
    obtain ⟨a0, a1, a2, _⟩ := (M3.out.fr hk (by omega)).three
    obtain ⟨b0, b1, b2, _⟩ := (N2.out.fr hk (by omega)).three
    exact ⟨a0, a1, a2, b0, b1, b2⟩)
  have hbd : Sep.Fr (fun k => k = p) W W.drew := (Sep.Fr.refl _ _).drew
  have SYa := Lib.hid (SY.out W.drew (P3.out.went (endT_ne HR2.out) (Gr.drawn _)))
  have SYb := Lib.hid (SY.out (W.alloc (.cells #[.int .i64 f.k, .string f.s, .int .i64 (f.at_ : Int)] 75)).drew (P3.out.went (endT_ne HR2.out) (Gr.step (Gr.boxed _ _) (Gr.drawn _))))
  have hbe : Sep.Fr (fun k => k = p) W (W.alloc (.cells #[.int .i64 f.k, .string f.s, .int .i64 (f.at_ : Int)] 75)).drew := ((Sep.Fr.refl _ _).alloc _).drew
  have R0 := Lib.hid ((toks_one (w.heap.size + 1) W.heap.size f W rfl (by omega)).went (Gr.drawn _))
  go_outline
  go_region_held3 (fun w' => w'.cell? ⟨w1.heap.size, 0, none⟩ = some (.int .i64 m.k) ∧ w'.cell? ⟨w1.heap.size, 1, none⟩ = some (.string m.s) ∧ w'.cell? ⟨w1.heap.size, 2, none⟩ = some (.int .i64 (m.at_ : Int)) ∧ w'.cell? ⟨w2.heap.size, 0, none⟩ = some (.int .i64 f.k) ∧ w'.cell? ⟨w2.heap.size, 1, none⟩ = some (.string f.s) ∧ w'.cell? ⟨w2.heap.size, 2, none⟩ = some (.int .i64 (f.at_ : Int)))
    (first | exact HQ.out _ (two_of (by assumption)) | exact HQ.out _ (two_of (Sep.Fr.alloc (by assumption) _)) | exact HQ.out _ (two_set (by assumption) _ _ _ _))
    (first
      | (go_at_call 93; ((with_reducible refine SYa.out.mono ?_); rintro e w3 ⟨v3, rfl, hT3, hP3, hF3⟩; have l3 : Sep.Fr (fun k => k = p) W w3 := hbd.trans hF3 (fun _ h => .inl h); have A3 := Lib.hid (And.intro hT3 hP3); have hs3 := l3.size; clear hT3 hP3 hF3))
      | (go_at_call 93; ((with_reducible refine SYb.out.mono ?_); rintro e w3 ⟨v3, rfl, hT3, hP3, hF3⟩; have l3 : Sep.Fr (fun k => k = p) W w3 := hbe.trans hF3 (fun _ h => .inl h); have B3 := Lib.hid (And.intro hT3 hP3); have hs3 := l3.size; have R3 := Lib.hid (R0.out.fr hF3 (fun b hb e => by omega)); clear hT3 hP3 hF3))
      | (refine step_append_rows _ (by rfl) _ _ 46 (by rfl) (w.heap.size + 1) 75 i0 (.agg #[.int .i64 0, .string ByteArray.empty, .int .i64 0]) 3 32 Tryz.underlying46 hi hz0 hz1 hz2 rfl (by decide) _ 1 (tcs f) (by rfl) (toks_one (w.heap.size + 1) w3.heap.size f w3 rfl (by omega)) _ v3 sy.length (cells sy) (by rfl) (A3.out.1.went (Gr.boxed _ _)) HC1.out (by unfold maxLen; omega) (by omega) (by simp; omega) ?_; intro v4 w4 hown4 hg4 hloc4; obtain ⟨a4, c4, rfl⟩ := row_shape hown4; have l4 : Sep.Fr (fun k => k = p) W w4 := (l3.alloc _).grown hg4 (fun k hk => .inr (by simp [Value.ownBlock] at hk; omega)); have A4 := Lib.hid hown4; obtain ⟨y0, y1, y2, y3, yf⟩ := (Z3.out.fr l4 (by omega)).four; have hs4 := l4.size; have P4 := Lib.hid (((A3.out.2.went (endT_ne HRR.out) (Gr.boxed _ _)).fr (endT_ne HRR.out) (Sep.Fr.grown (S := fun k => Value.ownBlock _ = some k) (.refl _ _) hg4 fun k hk => .inl hk) fun b hb e => by simp [Value.ownBlock] at e; omega)); clear hown4 hg4 hloc4)
      | (refine step_append_rows _ (by rfl) _ _ 46 (by rfl) (w.heap.size + 1) 75 i0 (.agg #[.int .i64 0, .string ByteArray.empty, .int .i64 0]) 3 32 Tryz.underlying46 hi hz0 hz1 hz2 rfl (by decide) _ 1 (tcs f) (by rfl) R3.out _ v3 sy.length (cells sy) (by rfl) B3.out.1 HC1.out (by unfold maxLen; omega) (by omega) (by omega) ?_; intro v4 w4 hown4 hg4 hloc4; obtain ⟨a4, c4, rfl⟩ := row_shape hown4; have l4 : Sep.Fr (fun k => k = p) W w4 := l3.grown hg4 (fun k hk => .inr (by simp [Value.ownBlock] at hk; omega)); have A4 := Lib.hid hown4; obtain ⟨y0, y1, y2, y3, yf⟩ := (Z3.out.fr l4 (by omega)).four; have hs4 := l4.size; have P4 := Lib.hid ((B3.out.2.fr (endT_ne HRR.out) (Sep.Fr.grown (S := fun k => Value.ownBlock _ = some k) (.refl _ _) hg4 fun k hk => .inl hk) fun b hb e => by simp [Value.ownBlock] at e; omega)); clear hown4 hg4 hloc4)
      | fail)
  all_goals
    go_wp2
    refine bodyPost_ret (v := .agg #[.int .i64 m.k, .string m.s, .int .i64 (m.at_ : Int), .slice a4 (1 + sy.length) c4]) (by simp [results, Tryz.results57, go_sem, yf, y0, y1, y2, y3]) rfl ⟨_, rfl, ⟨_, rfl, ?_⟩, ?_, ?_⟩
    · refine Toks.mono (b := w.heap.size + 1) (Toks.fr ?_ (fr_set4 _ _ _ _ _ _) fun b hb e => by omega) (by omega)
      unfold Toks
      rw [HC.out, List.length_cons, Nat.add_comm sy.length 1]
      exact A4.out
    · exact pat_new P4.out (endT_ne HRR.out) (fr_set4 _ _ _ _ _ _) hp
    · exact fr_new (F3.out.trans l4 fun _ h => .inl h) (fr_set4 _ _ _ _ _ _) (Nat.le_refl _)

theorem decl_any (p : Nat) (l : List Tok) (x : Pr Decl) (w : World) (hx : declP l = x) (h : PAt p l w) (hl : EndT l) (hlen : l.length ≤ 10000) :
    Calls Tryz.prog 57 #[.pointer (some ⟨p, 0, none⟩)] w (Gave p (DeclV w.heap.size) x w) := by
  unfold declP at hx
  cases h1 : takeP [7, 8] l with
  | out => exact absurd h1 (takeP_in hl)
  | no e1 q1 =>
    rw [h1] at hx
    simp only [Pr.bind] at hx
    subst hx
    exact decl_no1 p l e1 q1 w h hl h1
  | ok m r =>
    obtain ⟨hr, hrl⟩ := takeP_end h1 hl rfl
    rw [h1] at hx
    simp only [Pr.bind] at hx
    by_cases hm : m.k = 8
    · rw [if_pos hm] at hx
      cases h2 : takeP [1] r with
      | out => exact absurd h2 (takeP_in hr)
      | no e1 q1 =>
        rw [h2] at hx
        simp only at hx
        subst hx
        exact decl_start_no p l m r e1 q1 w h hl h1 hm hr h2
      | ok n r2 =>
        obtain ⟨hr2, _⟩ := takeP_end h2 hr rfl
        rw [h2] at hx
        simp only at hx
        subst hx
        exact decl_start_ok p l m r n r2 w h hl h1 hm hr h2 hr2
    · rw [if_neg hm] at hx
      cases h2 : takeP [1, 2] r with
      | out => exact absurd h2 (takeP_in hr)
      | no e1 q1 =>
        rw [h2] at hx
        simp only at hx
        subst hx
        exact decl_tok_no p l m r e1 q1 w h hl h1 hm hr h2
      | ok n r2 =>
        obtain ⟨hr2, hrl2⟩ := takeP_end h2 hr rfl
        rw [h2] at hx
        simp only at hx
        subst hx
        exact decl_tok_ok p l m r n r2 w h hl h1 hm hr h2 hr2 (by omega)

end Go.Proofs.YtimfiaphhomelaaGreat.Rd
