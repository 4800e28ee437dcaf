/-
  The parser: the names and quoted tokens that stand next. Condition: the tokens end with the end.
-/
import Derived.Test.YtimfiaphhomelaaGreatGreadTake
namespace Go.Proofs.YtimfiaphhomelaaGreat.Rd
open Go.RowKit Go.Maps
open Go.Proofs.YtimfiaphhomelaaGreat.Tk (Tok tcs cells cells_length cells_snoc Just info_tok cells_three_new)
set_option linter.unusedVariables false
set_option linter.unusedSimpArgs false

/-- Tokens of the call's own in a row. -/
def Toks (base : Nat) (S : List Tok) (v : Value) (w : World) : Prop := w.ownsRow base 75 3 v S.length (cells S)

theorem Toks.fr {base : Nat} {S : List Tok} {v : Value} {F : Nat → Prop} {w w' : World} (h : Toks base S v w) (k : Sep.Fr F w w') (hF : ∀ b, base ≤ b → ¬ F b) : Toks base S v w' :=
  Sep.ownsRow_at h fun g hg => k.block g (h.lt g hg).2 (hF g (h.lt g hg).1)
theorem Toks.went {base : Nat} {S : List Tok} {v : Value} {w w' : World} (h : Toks base S v w) (hb : Below w.heap.size w w') : Toks base S v w' :=
  h.fr (Sep.Fr.of_below (S := fun _ => False) hb) fun _ _ => id

theorem inK_symB (t : Tok) : inK [1, 2] t.k = symB t := by
  unfold inK symB
  simp only [List.contains_cons, List.contains_nil, Bool.or_false]

theorem syms_stop {d : List Tok} {t : Tok} {r : List Tok} (hd : ∀ x ∈ d, symB x = true) (ht : symB t = false) : symsL (d ++ t :: r) = d ∧ restL (d ++ t :: r) = t :: r := by
  unfold symsL restL
  rw [List.takeWhile_append_of_pos hd, List.dropWhile_append_of_pos hd, List.takeWhile_cons, List.dropWhile_cons, ht]
  simp

/-- The parser's frame, grown by new blocks. -/
theorem fr_went {p : Nat} {w w1 w2 : World} (h : Sep.Fr (fun k => k = p) w w1) (hp : p < w.heap.size) (k : Sep.Fr (fun k => k = p) w1 w2) : Sep.Fr (fun k => k = p) w w2 :=
  h.trans k fun _ hk => .inl hk
theorem fr_below {p : Nat} {w w1 w2 : World} (h : Sep.Fr (fun k => k = p) w w1) (k : Below w1.heap.size w1 w2) : Sep.Fr (fun k => k = p) w w2 :=
  h.trans (Sep.Fr.of_below (S := fun k => k = p) k) fun _ hk => .inl hk

/-- The loop's relation. -/
def SymAt (p : Nat) (l : List Tok) (w : World) (g : Nat) (v : Value) (wr : World) : Prop :=
  ∃ d n, l = d ++ n ∧ n.length = g ∧ (∀ x ∈ d, symB x = true) ∧ EndT n ∧ Toks w.heap.size d v wr ∧ PAt p n wr ∧ Sep.Fr (fun k => k = p) w wr

set_option maxRecDepth 100000 in
set_option maxHeartbeats 4000000 in
theorem symbols_any (p : Nat) (l : List Tok) (w : World) (h : PAt p l w) (hl : EndT l) (hlen : l.length ≤ 10000) :
    Calls Tryz.prog 93 #[.pointer (some ⟨p, 0, none⟩)] w (Gave p (fun S v w' => Toks w.heap.size S v w') (.ok (symsL l) (restL l)) w) := by
  have H := Lib.hid h
  have hp := h.lt
  obtain ⟨i0, hi, hz0, hz1, hz2⟩ := info_parts info_tok
  clear h
  go_enter Tryz.func93, Tryz.ntmps93
  go_wp2
  go_loopg [3] l.length (fun g v wr => SymAt p l w g v wr)
  case atStart => exact ⟨[], l, rfl, rfl, (fun x hx => by cases hx), hl, World.ownsRow_nil _ _ _ _, H.out, .refl _ _⟩
  case round =>
    clear H
    obtain ⟨d, n, hdn, rfl, hd, hn, hT, hP, hF⟩ := hrel
    have hps : p < wr.heap.size := hP.lt
    have T := Lib.hid hT
    have P := Lib.hid hP
    have F := Lib.hid hF
    have D := Lib.hid hd
    have L := Lib.hid hdn
    have hdl : d.length ≤ 10000 := by have := congrArg List.length hdn; simp at this; omega
    have hws : w.heap.size ≤ wr.heap.size := hF.size
    clear hT hP hF hd hdn
    cases n with
    | nil => exact absurd rfl (endT_ne hn)
    | cons t r =>
      have NX := Lib.hid (fun w1 (hb : Below wr.heap.size wr w1) b (hk : KindsAt b [1, 2] w1) => next_any p b 2 2 [1, 2] t r w1 rfl (by decide) hk (P.out.went (by simp) hb))
      rw [inK_symB] at NX
      cases hs : symB t with
      | false =>
        rw [hs] at NX
        obtain ⟨e1, e2⟩ := syms_stop (r := r) D.out hs
        rw [← L.out] at e1 e2
        have E := Lib.hid (And.intro e1 e2)
        clear hs e1 e2 hn
        go_wp2_with (go_at_call 56; refine (NX.out _ (Gr.boxed _ _) _ ?_).mono ?_; exact kinds2 1 2 wr _ rfl _; rintro e w' ⟨rfl, rfl⟩)
        go_ret
        rw [E.out.1, E.out.2]
        exact ⟨_, rfl, T.out.alloc _, P.out.went (by simp) (Gr.boxed _ _), F.out.alloc _⟩
      | true =>
        rw [hs] at NX
        have hr := endT_symB hn hs
        have HR := Lib.hid hr
        have hnr := endT_ne hr
        have TK := Lib.hid (fun w1 (hb : Below wr.heap.size wr w1) b (hk : KindsAt b [1, 2] w1) => take_ok p b 2 2 [1, 2] t r w1 rfl (by decide) hk (P.out.went (by simp) hb) hnr (by rw [inK_symB]; exact hs))
        have D2 := Lib.hid (show ∀ x ∈ d ++ [t], symB x = true from fun x hx => by
          rcases List.mem_append.1 hx with h | h
          · exact D.out x h
          · simp at h; subst h; exact hs)
        have L2 := Lib.hid (show l = (d ++ [t]) ++ r by rw [L.out]; simp)
        clear hs hr hnr hn
        go_wp2_with (first
          | (go_at_call 56; refine (NX.out _ (Gr.boxed _ _) _ ?_).mono ?_; exact kinds2 1 2 wr _ rfl _; rintro e w' ⟨rfl, rfl⟩)
          | (go_at_call 58; go_loud (refine (TK.out _ (Gr.step (Gr.boxed _ _) (Gr.boxed _ _)) _ ?_).mono ?_; exact kinds2 1 2 (wr.alloc _) _ (by simp) _; rintro e w1 ⟨v1, rfl, rfl, hP1, hF1⟩; have P1 := Lib.hid hP1; have F1 := Lib.hid (fr_went (fr_below F.out (Gr.step (Gr.boxed _ _) (Gr.boxed _ _))) hp hF1); have T1 := Lib.hid ((T.out.went (Gr.step (Gr.boxed _ _) (Gr.boxed _ _))).fr hF1 fun b hb e => by omega); have hs1 : w.heap.size ≤ w1.heap.size := F1.out.size; clear hP1 hF1))
          | (at_builtin; go_loud (refine wpList_append_own_at _ rfl _ _ 46 rfl w.heap.size 75 i0 (.agg #[.int .i64 0, .string ByteArray.empty, .int .i64 0]) 3 32 Tryz.underlying46 hi hz0 hz1 hz2 rfl (by decide) _ _ _ rfl (T1.out.went (Gr.boxed _ _)) ⟨w1.heap.size, 0, none⟩ 1 1 (tcs t) rfl rfl (cells_three_new _ _ _ _ _ _ rfl) (by simp [tcs, Value.oneCell']) (by unfold maxLen; omega) (by omega) (by simp; omega) ?_; intro v2 w2 hown2 hg2 hnl hloc; clear hnl hloc; have T2 := Lib.hid hown2; have F2 := Lib.hid ((F1.out.alloc _).grown hg2 fun k hk => .inr (T1.out.lt k hk).1); have P2 := Lib.hid ((P1.out.went (endT_ne HR.out) (Gr.boxed _ _)).fr (endT_ne HR.out) (Sep.Fr.grown (S := fun k => Value.ownBlock _ = some k) (.refl _ _) hg2 fun k hk => .inl hk) fun b hb e => by have := (T1.out.lt b e).1; omega); clear hown2 hg2)))
        go_roundg r.length
        case rel => exact ⟨d ++ [t], r, L2.out, rfl, D2.out, HR.out, by unfold Toks; rw [cells_snoc, List.length_append]; exact T2.out, P2.out, F2.out⟩
        case measure => simp

end Go.Proofs.YtimfiaphhomelaaGreat.Rd
