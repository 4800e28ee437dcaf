/-
  The parser: a declaration. Condition: the tokens end with the end.
-/
import Derived.Test.YtimfiaphhomelaaGreatGreadApp
namespace Go.Proofs.YtimfiaphhomelaaGreat.Rd
open Go.RowKit Go.Maps
open Go.Proofs.YtimfiaphhomelaaGreat.Tk (Tok tcs cells cells_length cells_snoc Just info_tok cells_three_new)
set_option linter.unusedVariables false
set_option linter.unusedSimpArgs false

/-- A declaration's value, and where its names lie. -/
def DeclV (base : Nat) (d : Decl) (v : Value) (w : World) : Prop := ∃ nv, v = .agg #[.int .i64 d.mark.k, .string d.mark.s, .int .i64 (d.mark.at_ : Int), nv] ∧ Toks base d.names nv w

theorem takeP_cons (ks : List Int) (t : Tok) (r : List Tok) : takeP ks (t :: r) = if inK ks t.k then .ok t r else .no (if t.k = 0 then 4 else 3) t.at_ := rfl

/-- take, whatever stands next. -/
theorem take_any (p b n c : Nat) (ks : List Int) (l : List Tok) (x : Pr Tok) (w : World) (hx : takeP ks l = x) (hn : n = ks.length) (hs : n ≤ 10) (hk : KindsAt b ks w) (h : PAt p l w) (hl : EndT l) (h0 : inK ks 0 = false) :
    Calls Tryz.prog 58 #[.pointer (some ⟨p, 0, none⟩), .slice (some ⟨b, 0, none⟩) n c] w (Gave p (fun a v _ => v = tokV a) x w) := by
  cases l with
  | nil => exact absurd rfl (endT_ne hl)
  | cons t r =>
    rw [takeP_cons] at hx
    cases hi : inK ks t.k with
    | true =>
      rw [hi, if_pos rfl] at hx
      subst hx
      exact take_ok p b n c ks t r w hn hs hk h (endT_ne (endT_cons hl fun e => by rw [e, h0] at hi; cases hi)) hi
    | false =>
      rw [hi, if_neg (by decide)] at hx
      subst hx
      exact take_no p b n c ks t r w hn hs hk h hi

/-- The frame of the parser behind a call of its own, in a later world. -/
theorem fr_step {p : Nat} {w w1 w2 : World} (h : Below w.heap.size w w1) (k : Sep.Fr (fun k => k = p) w1 w2) : Sep.Fr (fun k => k = p) w w2 :=
  (Sep.Fr.of_below (S := fun k => k = p) h).trans k fun _ hk => .inl hk

/-- A block that holds just these cells. -/
def Bk (q : Nat) (cs : Array Value) (T : TypeId) (w : World) : Prop := w.heap[q]? = some (.cells cs T)
theorem Bk.new (w : World) (cs : Array Value) (T : TypeId) (n : Nat) (hn : n = w.heap.size) : Bk n cs T (w.alloc (.cells cs T)) := by
  subst hn
  exact heap_alloc_new w _
theorem Bk.lt {q : Nat} {cs : Array Value} {T : TypeId} {w : World} (h : Bk q cs T w) : q < w.heap.size := by
  rcases Nat.lt_or_ge q w.heap.size with h1 | h1
  · exact h1
  · unfold Bk at h
    rw [Array.getElem?_eq_none h1] at h
    cases h
theorem Bk.fr {q : Nat} {cs : Array Value} {T : TypeId} {S : Nat → Prop} {w w' : World} (h : Bk q cs T w) (k : Sep.Fr S w w') (hq : ¬ S q) : Bk q cs T w' := (k.block q h.lt hq).trans h
theorem Bk.went {q : Nat} {cs : Array Value} {T : TypeId} {w w' : World} (h : Bk q cs T w) (k : Below w.heap.size w w') : Bk q cs T w' := (k.block q h.lt).trans h
theorem Bk.cell {q : Nat} {cs : Array Value} {T : TypeId} {w : World} (h : Bk q cs T w) {j : Nat} {v : Value} (hv : cs[j]? = some v) : w.cell? ⟨q, j, none⟩ = some v := by
  unfold Bk at h
  simp [World.cell?, h, hv]
theorem Bk.free {q : Nat} {cs : Array Value} {T : TypeId} {w : World} (h : Bk q cs T w) (j : Nat) : w.frozen? ⟨q, j, none⟩ = false := by
  unfold Bk at h
  simp [World.frozen?, h]
theorem Bk.four {q : Nat} {a b c d : Value} {T : TypeId} {w : World} (h : Bk q #[a, b, c, d] T w) : w.cell? ⟨q, 0, none⟩ = some a ∧ w.cell? ⟨q, 1, none⟩ = some b ∧ w.cell? ⟨q, 2, none⟩ = some c ∧ w.cell? ⟨q, 3, none⟩ = some d ∧ (∀ j, w.frozen? ⟨q, j, none⟩ = false) :=
  ⟨h.cell rfl, h.cell rfl, h.cell rfl, h.cell rfl, h.free⟩
theorem Bk.three {q : Nat} {a b c : Value} {T : TypeId} {w : World} (h : Bk q #[a, b, c] T w) : w.cell? ⟨q, 0, none⟩ = some a ∧ w.cell? ⟨q, 1, none⟩ = some b ∧ w.cell? ⟨q, 2, none⟩ = some c ∧ (∀ j, w.frozen? ⟨q, j, none⟩ = false) :=
  ⟨h.cell rfl, h.cell rfl, h.cell rfl, h.free⟩

theorem set_size (w : World) (a : Addr) (v : Value) : (w.setCell a v).heap.size = w.heap.size := by simp [World.setCell]

/-- Four stores into one block. -/
theorem fr_set4 (w : World) (q : Nat) (a b c d : Value) : Sep.Fr (fun k => k = q) w ((((w.setCell ⟨q, 0, none⟩ a).setCell ⟨q, 1, none⟩ b).setCell ⟨q, 2, none⟩ c).setCell ⟨q, 3, none⟩ d) :=
  ((((Sep.Fr.refl (fun k => k = q) w).setCell ⟨q, 0, none⟩ rfl a).setCell ⟨q, 1, none⟩ rfl b).setCell ⟨q, 2, none⟩ rfl c).setCell ⟨q, 3, none⟩ rfl d
theorem set4_size (w : World) (q : Nat) (a b c d : Value) : ((((w.setCell ⟨q, 0, none⟩ a).setCell ⟨q, 1, none⟩ b).setCell ⟨q, 2, none⟩ c).setCell ⟨q, 3, none⟩ d).heap.size = w.heap.size := by
  rw [set_size, set_size, set_size, set_size]

theorem toks_one (base q : Nat) (t : Tok) (w : World) (hq : q = w.heap.size) (hb : base ≤ q) : Toks base [t] (.slice (some ⟨q, 0, none⟩) 1 1) (w.alloc (.cells #[.int .i64 t.k, .string t.s, .int .i64 (t.at_ : Int)] 75)) := by
  subst hq
  exact World.ownsRow_lit w #[.int .i64 t.k, .string t.s, .int .i64 (t.at_ : Int)] 1 hb (by decide) (by simp)

/-- The parser, its frame, behind stores into a newer block. -/
theorem pat_new {p : Nat} {l : List Tok} {w w' : World} {q : Nat} (h : PAt p l w) (hl : l ≠ []) (k : Sep.Fr (fun b => b = q) w w') (hq : p < q) : PAt p l w' := h.fr hl k fun b hb e => by omega
theorem fr_new {p : Nat} {w w1 w2 : World} {q : Nat} (h : Sep.Fr (fun k => k = p) w w1) (k : Sep.Fr (fun b => b = q) w1 w2) (hq : w.heap.size ≤ q) : Sep.Fr (fun k => k = p) w w2 := h.trans k fun b hb => .inr (by omega)

set_option maxRecDepth 100000 in
set_option maxHeartbeats 4000000 in
theorem decl_no1 (p : Nat) (l : List Tok) (e1 : Int) (q1 : Nat) (w : World) (h : PAt p l w) (hl : EndT l) (h1 : takeP [7, 8] l = .no e1 q1) :
    Calls Tryz.prog 57 #[.pointer (some ⟨p, 0, none⟩)] w (Gave p (DeclV w.heap.size) (.no e1 q1) w) := by
  have hne := endT_ne hl
  have T1 := Lib.hid (fun w1 (hb : Below w.heap.size w w1) b (hk : KindsAt b [7, 8] w1) => take_any p b 2 2 [7, 8] l _ w1 h1 rfl (by decide) hk (h.went hne hb) hl rfl)
  clear h hne h1
  go_enter Tryz.func57, Tryz.ntmps57
  go_wp2_with (go_at_call 58; refine (T1.out _ (Gr.step (Gr.boxed _ _) (Gr.boxed _ _)) _ ?_).mono ?_; exact kinds2 7 8 (w.alloc _) _ (by simp) _; rintro e w1 ⟨rfl, hF⟩; have F := Lib.hid (fr_step (Gr.step (Gr.boxed _ _) (Gr.boxed _ _)) hF); clear hF)
  exact ⟨rfl, rfl, F.out⟩

set_option maxRecDepth 100000 in
set_option maxHeartbeats 4000000 in
theorem decl_start_no (p : Nat) (l : List Tok) (m : Tok) (r : List Tok) (e1 : Int) (q1 : Nat) (w : World) (h : PAt p l w) (hl : EndT l) (h1 : takeP [7, 8] l = .ok m r) (hm : m.k = 8) (hr : EndT r) (h2 : takeP [1] r = .no e1 q1) :
    Calls Tryz.prog 57 #[.pointer (some ⟨p, 0, none⟩)] w (Gave p (DeclV w.heap.size) (.no e1 q1) w) := by
  have hne := endT_ne hl
  have hnr := endT_ne hr
  have hp := h.lt
  have T1 := Lib.hid (fun w1 (hb : Below w.heap.size w w1) b (hk : KindsAt b [7, 8] w1) => take_any p b 2 2 [7, 8] l _ w1 h1 rfl (by decide) hk (h.went hne hb) hl rfl)
  have T2 := Lib.hid (fun w1 w2 (hP : PAt p r w1) (hb : Below w1.heap.size w1 w2) b (hk : KindsAt b [1] w2) => take_any p b 1 1 [1] r _ w2 h2 rfl (by decide) hk (hP.went hnr hb) hr rfl)
  have hm8 : (m.k == 8) = true := by simpa using hm
  clear h hne h1 h2 hm hl hr
  go_enter Tryz.func57, Tryz.ntmps57
  go_wp2_with (go_at_call 58; refine (T1.out _ (Gr.step (Gr.boxed _ _) (Gr.boxed _ _)) _ ?_).mono ?_; exact kinds2 7 8 (w.alloc _) _ (by simp) _; rintro e w1 ⟨v1, rfl, rfl, hP1, hF1⟩; have P1 := Lib.hid hP1; have F1 := Lib.hid (fr_step (Gr.step (Gr.boxed _ _) (Gr.boxed _ _)) hF1); clear hP1 hF1)
  go_region_with (go_at_call 58; refine (T2.out w1 _ P1.out ?_ _ ?_).mono ?_; exact Gr.step (Gr.step (Gr.boxed _ _) (Gr.boxed _ _)) (Gr.drawn _); exact (kinds1 1 (w1.alloc _) _ (by simp) _).went (Gr.drawn _); rintro e w2 ⟨rfl, hF2⟩; refine dead (P := Tryz.prog) w ⟨rfl, rfl, ?_⟩ ?_; exact fr_went F1.out hp (fr_step (Gr.step (Gr.step (Gr.boxed _ _) (Gr.boxed _ _)) (Gr.drawn _)) hF2))
  all_goals trivial

set_option maxRecDepth 100000 in
set_option maxHeartbeats 4000000 in
theorem decl_start_ok (p : Nat) (l : List Tok) (m : Tok) (r : List Tok) (n : Tok) (r2 : List Tok) (w : World) (h : PAt p l w) (hl : EndT l) (h1 : takeP [7, 8] l = .ok m r) (hm : m.k = 8) (hr : EndT r) (h2 : takeP [1] r = .ok n r2) (hr2 : EndT r2) :
    Calls Tryz.prog 57 #[.pointer (some ⟨p, 0, none⟩)] w (Gave p (DeclV w.heap.size) (.ok ⟨m, [n]⟩ r2) w) := by
  have hne := endT_ne hl
  have hnr := endT_ne hr
  have hp := h.lt
  have T1 := Lib.hid (fun w1 (hb : Below w.heap.size w w1) b (hk : KindsAt b [7, 8] w1) => take_any p b 2 2 [7, 8] l _ w1 h1 rfl (by decide) hk (h.went hne hb) hl rfl)
  have T2 := Lib.hid (fun w1 w2 (hP : PAt p r w1) (hb : Below w1.heap.size w1 w2) b (hk : KindsAt b [1] w2) => take_any p b 1 1 [1] r _ w2 h2 rfl (by decide) hk (hP.went hnr hb) hr rfl)
  have hm8 : (m.k == 8) = true := by simpa using hm
  have hne2 := endT_ne hr2
  have Z0 := Lib.hid (Bk.new w #[.int .i64 0, .string ⟨#[]⟩, .int .i64 0, .slice none 0 0] 90 _ rfl)
  clear h hne h1 h2 hm hl hr
  go_enter Tryz.func57, Tryz.ntmps57
  go_wp2_with (go_at_call 58; refine (T1.out _ (Gr.step (Gr.boxed _ _) (Gr.boxed _ _)) _ ?_).mono ?_; exact kinds2 7 8 (w.alloc _) _ (by simp) _; rintro e w1 ⟨v1, rfl, rfl, hP1, hF1⟩; have P1 := Lib.hid hP1; have F1 := Lib.hid (fr_step (Gr.step (Gr.boxed _ _) (Gr.boxed _ _)) hF1); have Z1 := Lib.hid ((Z0.out.went (Gr.boxed _ _)).fr hF1 (by omega)); obtain ⟨z0, z1, z2, z3, zf⟩ := Z1.out.four; have hws : w.heap.size < w1.heap.size := Z1.out.lt; clear hP1 hF1)
  go_region_with (go_at_call 58; refine (T2.out w1 _ P1.out ?_ _ ?_).mono ?_; exact Gr.step (Gr.step (Gr.boxed _ _) (Gr.boxed _ _)) (Gr.drawn _); exact (kinds1 1 (w1.alloc _) _ (by simp) _).went (Gr.drawn _); rintro e w2 ⟨v2, rfl, rfl, hP2, hF2⟩; have P2 := Lib.hid hP2; have F2 := Lib.hid (fr_went F1.out hp (fr_step (Gr.step (Gr.step (Gr.boxed _ _) (Gr.boxed _ _)) (Gr.drawn _)) hF2)); have Z2 := Lib.hid ((Z1.out.went (Gr.step (Gr.step (Gr.boxed _ _) (Gr.boxed _ _)) (Gr.drawn _))).fr hF2 (by omega)); obtain ⟨y0, y1, y2, y3, yf⟩ := Z2.out.four; have hws2 : w.heap.size < w2.heap.size := Z2.out.lt; have M2 := Lib.hid (((Bk.new w1 #[.int .i64 m.k, .string m.s, .int .i64 (m.at_ : Int)] 75 _ rfl).went (Gr.step (Gr.boxed _ _) (Gr.drawn _))).fr hF2 (by omega)); obtain ⟨x0, x1, x2, xf⟩ := M2.out.three; have hw12 : w1.heap.size < w2.heap.size := M2.out.lt; clear hP2 hF2)
  all_goals
    go_wp2
    refine bodyPost_ret (v := .agg #[.int .i64 m.k, .string m.s, .int .i64 (m.at_ : Int), .slice (some ⟨w2.heap.size, 0, none⟩) 1 1]) (by simp [results, Tryz.results57, go_sem, zf, yf, z0, z1, z2, z3, y0, y1, y2, y3, hws2]) rfl ⟨_, rfl, ⟨_, rfl, ?_⟩, ?_, ?_⟩
    · exact toks_one _ _ n _ (set4_size _ _ _ _ _ _).symm (Nat.le_of_lt hws2)
    · exact (pat_new P2.out hne2 (fr_set4 _ _ _ _ _ _) hp).went hne2 (Gr.boxed _ _)
    · exact (fr_new F2.out (fr_set4 _ _ _ _ _ _) (Nat.le_refl _)).alloc _

set_option maxRecDepth 100000 in
set_option maxHeartbeats 4000000 in
theorem decl_tok_no (p : Nat) (l : List Tok) (m : Tok) (r : List Tok) (e1 : Int) (q1 : Nat) (w : World) (h : PAt p l w) (hl : EndT l) (h1 : takeP [7, 8] l = .ok m r) (hm : ¬ m.k = 8) (hr : EndT r) (h2 : takeP [1, 2] r = .no e1 q1) :
    Calls Tryz.prog 57 #[.pointer (some ⟨p, 0, none⟩)] w (Gave p (DeclV w.heap.size) (.no e1 q1) w) := by
  have hne := endT_ne hl
  have hnr := endT_ne hr
  have hp := h.lt
  have T1 := Lib.hid (fun w1 (hb : Below w.heap.size w w1) b (hk : KindsAt b [7, 8] w1) => take_any p b 2 2 [7, 8] l _ w1 h1 rfl (by decide) hk (h.went hne hb) hl rfl)
  have T2 := Lib.hid (fun w1 w2 (hP : PAt p r w1) (hb : Below w1.heap.size w1 w2) b (hk : KindsAt b [1, 2] w2) => take_any p b 2 2 [1, 2] r _ w2 h2 rfl (by decide) hk (hP.went hnr hb) hr rfl)
  have hm8 : (m.k == 8) = false := by simpa using hm
  clear h hne h1 h2 hm hl hr
  go_enter Tryz.func57, Tryz.ntmps57
  go_wp2_with (first
    | (go_at_call 58; ((with_reducible refine (T1.out _ (Gr.step (Gr.boxed _ _) (Gr.boxed _ _)) _ ?_).mono ?_); exact kinds2 7 8 (w.alloc _) _ (by simp) _; rintro e w1 ⟨v1, rfl, rfl, hP1, hF1⟩; have P1 := Lib.hid hP1; have F1 := Lib.hid (fr_step (Gr.step (Gr.boxed _ _) (Gr.boxed _ _)) hF1); clear hP1 hF1))
    | (go_at_call 58; refine (T2.out w1 _ P1.out ?_ _ ?_).mono ?_; exact Gr.step (Gr.boxed _ _) (Gr.boxed _ _); exact kinds2 1 2 (w1.alloc _) _ (by simp) _; rintro e w2 ⟨rfl, hF2⟩; have F2 := Lib.hid (fr_went F1.out hp (fr_step (Gr.step (Gr.boxed _ _) (Gr.boxed _ _)) hF2)); clear hF2))
  exact ⟨rfl, rfl, F2.out⟩

end Go.Proofs.YtimfiaphhomelaaGreat.Rd
