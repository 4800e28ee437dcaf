/-
  The parser: a rule with its right sides. Condition: the tokens end with the end.
-/
import Derived.Test.YtimfiaphhomelaaGreatGreadDecl2
import Derived.Deep.LoopGhost
import Derived.Deep.DeepCutAuto
namespace Go.Proofs.YtimfiaphhomelaaGreat.Rd
open Go.RowKit Go.Maps
open Go.Proofs.YtimfiaphhomelaaGreat.Tk (Tok tcs cells cells_length cells_snoc Just info_tok cells_three_new)
set_option linter.unusedVariables false
set_option linter.unusedSimpArgs false

/-- A right side's cells, and the value of its symbols. -/
def sc (x : Side × Value) : List Value := [.int .i64 x.1.first.k, .string x.1.first.s, .int .i64 (x.1.first.at_ : Int), x.2]
/-- Right sides of the call's own in a row. -/
def SidesV (base : Nat) (S : List Side) (v : Value) (w : World) : Prop := ∃ L : List (Side × Value), L.map Prod.fst = S ∧ w.ownsRow base 122 4 v L.length (L.flatMap sc) ∧ (∀ x ∈ L, Toks base x.1.syms x.2 w) ∧ ∀ x ∈ L, ∀ g, x.2.ownBlock = some g → v.ownBlock ≠ some g

theorem Toks.lt {base : Nat} {S : List Tok} {v : Value} {w : World} (h : Toks base S v w) (g : Nat) (hg : v.ownBlock = some g) : base ≤ g ∧ g < w.heap.size := World.ownsRow.lt h g hg
theorem SidesV.nil (base : Nat) (w : World) : SidesV base [] (.slice none 0 0) w := ⟨[], rfl, World.ownsRow_nil _ _ _ _, (fun x hx => by cases hx), (fun x hx => by cases hx)⟩
theorem SidesV.fr {base : Nat} {S : List Side} {v : Value} {F : Nat → Prop} {w w' : World} (h : SidesV base S v w) (k : Sep.Fr F w w') (hF : ∀ b, base ≤ b → ¬ F b) : SidesV base S v w' := by
  obtain ⟨L, h1, h2, h3, h4⟩ := h
  exact ⟨L, h1, Sep.ownsRow_at h2 fun g hg => k.block g (h2.lt g hg).2 (hF g (h2.lt g hg).1), fun x hx => (h3 x hx).fr k hF, h4⟩
theorem SidesV.went {base : Nat} {S : List Side} {v : Value} {w w' : World} (h : SidesV base S v w) (hb : Below w.heap.size w w') : SidesV base S v w' := h.fr (Sep.Fr.of_below (S := fun _ => False) hb) fun _ _ => id
theorem SidesV.mono {b b' : Nat} {S : List Side} {v : Value} {w : World} (h : SidesV b S v w) (hb : b' ≤ b) : SidesV b' S v w := by
  obtain ⟨L, h1, h2, h3, h4⟩ := h
  refine ⟨L, h1, ?_, fun x hx => (h3 x hx).mono hb, h4⟩
  obtain ⟨g1, g2⟩ := h2
  refine ⟨g1, g2.imp id ?_⟩
  rintro ⟨g, cap, cur, k3, k4, k5⟩
  exact ⟨g, cap, cur, k3, Nat.le_trans hb k4, k5⟩
theorem SidesV.len {base : Nat} {S : List Side} {v : Value} {w : World} (h : SidesV base S v w) : ∃ a c, v = .slice a S.length c := by
  obtain ⟨L, h1, h2, h3, h4⟩ := h
  obtain ⟨a, c, rfl⟩ := row_shape h2
  exact ⟨a, c, by rw [← h1, List.length_map]⟩

/-- A rule's value, and where its right sides lie. -/
def RulV (base : Nat) (R : Rul) (v : Value) (w : World) : Prop := ∃ sv, v = .agg #[.int .i64 R.left.k, .string R.left.s, .int .i64 (R.left.at_ : Int), sv] ∧ SidesV base R.sides sv w

theorem sides_fuel {l : List Tok} {acc : List Side} {x : Pr (List Side)} (h : Is (fun f => sidesP f l acc) x) : ∃ f, sidesP (f + 1) l acc = x ∧ x ≠ .out := by
  obtain ⟨f, hf, hx⟩ := h
  cases f with
  | zero => exact absurd hf.symm hx
  | succ f => exact ⟨f, hf, hx⟩
theorem sides_no {l : List Tok} {acc : List Side} {x : Pr (List Side)} {e : Int} {q : Nat} (h : Is (fun f => sidesP f l acc) x) (ht : takeP [4, 5] (restL l) = .no e q) : x = .no e q := by
  obtain ⟨f, hf, hx⟩ := sides_fuel h
  rw [sidesP, ht] at hf
  exact hf.symm
theorem sides_end {l r : List Tok} {acc : List Side} {x : Pr (List Side)} {t : Tok} (h : Is (fun f => sidesP f l acc) x) (ht : takeP [4, 5] (restL l) = .ok t r) (hk : t.k = 5) : x = .ok (acc ++ [⟨headT l, symsL l⟩]) r := by
  obtain ⟨f, hf, hx⟩ := sides_fuel h
  rw [sidesP, ht] at hf
  simp only [Pr.bind] at hf
  rw [if_pos hk] at hf
  exact hf.symm
theorem sides_more {l r : List Tok} {acc : List Side} {x : Pr (List Side)} {t : Tok} (h : Is (fun f => sidesP f l acc) x) (ht : takeP [4, 5] (restL l) = .ok t r) (hk : ¬ t.k = 5) : Is (fun f => sidesP f r (acc ++ [⟨headT l, symsL l⟩])) x := by
  obtain ⟨f, hf, hx⟩ := sides_fuel h
  rw [sidesP, ht] at hf
  simp only [Pr.bind] at hf
  rw [if_neg hk] at hf
  exact ⟨f, hf, hx⟩

theorem info_side : (Tryz.prog.info? 122).map (fun i => (i.zero, i.size, i.bytes)) = some (some (.agg #[.int .i64 0, .string ByteArray.empty, .int .i64 0, .slice none 0 0]), 4, 56) := by kernel_rfl

/-- The loop's relation: the rule's block q. -/
def SideAt (p q0 q : Nat) (left : Tok) (x : Pr (List Side)) (w : World) (g : Nat) (wr : World) : Prop :=
  ∃ l acc sv, l.length = g ∧ EndT l ∧ acc.length + g ≤ 10000 ∧ Is (fun f => sidesP f l acc) x ∧ PAt p l wr ∧ Bk q #[.int .i64 left.k, .string left.s, .int .i64 (left.at_ : Int), sv] 94 wr ∧ Bk q0 #[.int .i64 0, .string ⟨#[]⟩, .int .i64 0, .slice none 0 0] 94 wr ∧ SidesV (q + 1) acc sv wr ∧ Sep.Fr (fun k => k = p) w wr

/-- Behind one right side. -/
def SideMid (p q0 q : Nat) (left : Tok) (acc : List Side) (l : List Tok) (w : World) (wr : World) : Prop :=
  ∃ sv, PAt p l wr ∧ Bk q #[.int .i64 left.k, .string left.s, .int .i64 (left.at_ : Int), sv] 94 wr ∧ Bk q0 #[.int .i64 0, .string ⟨#[]⟩, .int .i64 0, .slice none 0 0] 94 wr ∧ SidesV (q + 1) acc sv wr ∧ Sep.Fr (fun k => k = p) w wr

theorem Bk.grown {q : Nat} {cs : Array Value} {T : TypeId} {w w' : World} {row : Option Nat} (h : Bk q cs T w) (hg : w.grownBy w' row) (hr : ∀ k, row = some k → k ≠ q) : Bk q cs T w' :=
  (hg.block q h.lt (fun e => hr q e.symm rfl)).trans h
theorem Bk.set {q j : Nat} {cs : Array Value} {T : TypeId} {w : World} (h : Bk q cs T w) (hj : j < cs.size) (v : Value) : Bk q (cs.setIfInBounds j v) T (w.setCell ⟨q, j, none⟩ v) := by
  unfold Bk at h ⊢
  obtain ⟨hl, h⟩ := Array.getElem?_eq_some_iff.1 h
  rw [Array.getElem?_eq_some_iff]
  refine ⟨by rw [set_size]; exact hl, ?_⟩
  simp [World.setCell, Array.getElem_modify, h]

/-- Tokens of an older row stay behind an append to another row. -/
theorem Toks.keep4 {b : Nat} {S : List Tok} {u v : Value} {w w1 w2 : World} (h : Toks b S u w) (h1 : Below w.heap.size w w1) (hg : w1.grownBy w2 v.ownBlock) (hne : ∀ g, u.ownBlock = some g → v.ownBlock ≠ some g) : Toks b S u w2 :=
  Sep.ownsRow_at h fun g hgu => (hg.block g (Nat.lt_of_lt_of_le (h.lt g hgu).2 h1.size) (fun e => hne g hgu e.symm)).trans (h1.block g (h.lt g hgu).2)

theorem field_k (t : Tok) (w : World) : (Instr.field 75 (.agg #[.int .i64 t.k, .string t.s, .int .i64 (t.at_ : Int)]) 0).run Tryz.prog w = .ok (.int .i64 t.k) w := by kernel_rfl

theorem side_one (base q : Nat) (x : Side × Value) (w : World) (hq : q = w.heap.size) (hb : base ≤ q) : (w.alloc (.cells #[.int .i64 x.1.first.k, .string x.1.first.s, .int .i64 (x.1.first.at_ : Int), x.2] 122)).ownsRow base 122 4 (.slice (some ⟨q, 0, none⟩) 1 1) 1 (sc x) := by
  subst hq
  exact World.ownsRow_lit w #[.int .i64 x.1.first.k, .string x.1.first.s, .int .i64 (x.1.first.at_ : Int), x.2] 1 hb (by decide) (by simp)

set_option maxRecDepth 100000 in
set_option maxHeartbeats 8000000 in
theorem rule_loop (p : Nat) (l : List Tok) (left : Tok) (r1 : List Tok) (t2 : Tok) (r2 : List Tok) (x : Pr (List Side)) (w : World) (h : PAt p l w) (hl : EndT l) (h1 : takeP [1] l = .ok left r1) (hr1 : EndT r1) (h2 : takeP [3] r1 = .ok t2 r2) (hr2 : EndT r2) (hlen : r2.length ≤ 10000)
    (hx : Is (fun f => sidesP f r2 []) x) :
    Calls Tryz.prog 59 #[.pointer (some ⟨p, 0, none⟩)] w (Gave p (RulV w.heap.size) (x.bind fun S r => .ok ⟨left, S⟩ r) w) := by
  have hne := endT_ne hl
  have hnr := endT_ne hr1
  have hp := h.lt
  have T1 := Lib.hid (fun w1 (hb : Below w.heap.size w w1) b (hk : KindsAt b [1] w1) => take_any p b 1 1 [1] l _ w1 h1 rfl (by decide) hk (h.went hne hb) hl rfl)
  have T2 := Lib.hid (fun w1 w2 (hP : PAt p r1 w1) (hb : Below w1.heap.size w1 w2) b (hk : KindsAt b [3] w2) => take_any p b 1 1 [3] r1 _ w2 h2 rfl (by decide) hk (hP.went hnr hb) hr1 rfl)
  have HR2 := Lib.hid hr2
  have HX := Lib.hid hx
  obtain ⟨i0, hi, hz0, hz1, hz2⟩ := info_parts info_side
  have Z0 := Lib.hid (Bk.new w #[.int .i64 0, .string ⟨#[]⟩, .int .i64 0, .slice none 0 0] 94 _ rfl)
  clear h hne hnr h1 h2 hl hr1 hr2 hx
  go_enter Tryz.func59, Tryz.ntmps59
  go_wp2_with (first
    | (go_at_call 58; ((with_reducible refine (T1.out _ (Gr.step (Gr.boxed _ _) (Gr.boxed _ _)) _ ?_).mono ?_); exact kinds1 1 (w.alloc _) _ (by simp) _; rintro e w1 ⟨v1, rfl, rfl, hP1, hF1⟩; have P1 := Lib.hid hP1; have F1 := Lib.hid (fr_step (Gr.step (Gr.boxed _ _) (Gr.boxed _ _)) hF1); have Z1 := Lib.hid ((Z0.out.went (Gr.boxed _ _)).fr hF1 (by omega)); have hws1 : w.heap.size < w1.heap.size := Z1.out.lt; clear hP1 hF1))
    | (go_at_call 58; refine (T2.out w1 _ P1.out ?_ _ ?_).mono ?_; exact Gr.step (Gr.boxed _ _) (Gr.boxed _ _); exact kinds1 3 (w1.alloc _) _ (by simp) _; rintro e w2 ⟨v2, rfl, rfl, hP2, hF2⟩; have P2 := Lib.hid hP2; have F2 := Lib.hid (fr_went F1.out hp (fr_step (Gr.step (Gr.boxed _ _) (Gr.boxed _ _)) hF2)); have Z2 := Lib.hid ((Z1.out.went (Gr.step (Gr.boxed _ _) (Gr.boxed _ _))).fr hF2 (by omega)); have M2 := Lib.hid (((Bk.new w1 #[.int .i64 left.k, .string left.s, .int .i64 (left.at_ : Int), .slice none 0 0] 94 _ rfl).went (Gr.boxed _ _)).fr hF2 (by omega)); clear hP2 hF2))
  go_loopg [] r2.length (fun g wr => SideAt p w.heap.size w1.heap.size left x w g wr)
  case atStart => exact ⟨r2, [], _, rfl, HR2.out, by simpa using hlen, HX.out, P2.out, M2.out, Z2.out, SidesV.nil _ _, F2.out⟩
  case round =>
    clear T1 T2 HX P1 F1 Z1 P2 F2 Z2 M2 HR2
    obtain ⟨l, acc, sv, rfl, hl, hag, hI, hP, hM, hZ, hS, hF⟩ := hrel
    obtain ⟨L, rfl, hO, hTL, hAP⟩ := hS
    have AP := Lib.hid hAP
    clear hAP
    obtain ⟨a, c, rfl⟩ := row_shape hO
    have hacc : L.length + l.length ≤ 10000 := by simpa using hag
    have hwr : w.heap.size ≤ wr.heap.size := hF.size
    have hq1 : w1.heap.size < wr.heap.size := hM.lt
    obtain ⟨z0, z1, z2, z3, zf⟩ := hM.four
    have SY := Lib.hid (fun w1 (hP : PAt p l w1) => symbols_any p l w1 hP hl (by omega))
    cases l with
    | nil => exact absurd rfl (endT_ne hl)
    | cons t0 l0 =>
      have P := Lib.hid hP
      obtain ⟨g, o, c', hp'⟩ := hP
      have c0 := hp'.cell
      obtain ⟨x0, x1, x2⟩ := hp'.at0
      have hlen0 : 0 < (t0 :: l0).length := by simp
      generalize hlL : (t0 :: l0).length = m at c0 hlen0
      have HLL := Lib.hid hlL
      have O := Lib.hid hO
      have TL := Lib.hid hTL
      have M := Lib.hid hM
      have Z := Lib.hid hZ
      have F := Lib.hid hF
      have I := Lib.hid hI
      have HEL := Lib.hid hl
      have HRR := Lib.hid (endT_rest hl)
      clear hO hTL hM hZ hF hI hl hp' hlL hag
      go_wp2
      go_cut [] (fun wx => SideMid p w.heap.size w1.heap.size left (L.map Prod.fst ++ [⟨t0, symsL (t0 :: l0)⟩]) (restL (t0 :: l0)) w wx)
      case first =>
        clear z0 z1 z2 z3 zf c0 x0 x1 x2
        have N := Lib.hid (Bk.new wr #[.int .i64 t0.k, .string t0.s, .int .i64 (t0.at_ : Int)] 75 _ rfl)
        have bx := Gr.boxed wr (.cells #[.int .i64 t0.k, .string t0.s, .int .i64 (t0.at_ : Int)] 75)
        have M2 := Lib.hid (M.out.went bx)
        have Z2 := Lib.hid (Z.out.went bx)
        have P2 := Lib.hid (P.out.went (by simp) bx)
        have F2 := Lib.hid (fr_below F.out bx)
        have O2 := Lib.hid (Sep.ownsRow_at O.out fun g hg => bx.block g (O.out.lt g hg).2)
        have TL2 := Lib.hid (fun x hx => (TL.out x hx).went bx)
        have hW : (wr.alloc (.cells #[.int .i64 t0.k, .string t0.s, .int .i64 (t0.at_ : Int)] 75)).heap.size = wr.heap.size + 1 := by simp
        have HWS := Lib.hid hW
        clear hW bx
        generalize (wr.alloc (.cells #[.int .i64 t0.k, .string t0.s, .int .i64 (t0.at_ : Int)] 75)) = W at *
        have hWs : wr.heap.size < W.heap.size := by rw [HWS.out]; omega
        obtain ⟨x0, x1, x2, xf⟩ := N.out.three
        obtain ⟨z0, z1, z2, z3, zf⟩ := M2.out.four
        have SYa := Lib.hid (SY.out W.drew (P2.out.went (by simp) (Gr.drawn _)))
        generalize hsy : symsL (t0 :: l0) = sy at SYa
        generalize hrs : restL (t0 :: l0) = rs at SYa HRR
        have HSY := Lib.hid hsy
        have HRS := Lib.hid hrs
        clear hrs
        have hsl : sy.length ≤ 10000 := by rw [← hsy]; exact Nat.le_trans (symsL_le _) (by omega)
        clear hsy
        have hbd : Sep.Fr (fun k => k = p) W W.drew := (Sep.Fr.refl _ _).drew
        have NP := Lib.hid (show ∀ b, w1.heap.size + 1 ≤ b → ¬ (b = p) from fun b hb e => by omega)
        have NW := Lib.hid (show ∀ b, W.drew.heap.size ≤ b → ¬ (b = p) from fun b hb e => by have : W.drew.heap.size = W.heap.size := rfl; omega)
        go_region_law (first
          | (refine step_append_rows _ (by rfl) _ _ 92 (by rfl) (w1.heap.size + 1) 122 i0 (.agg #[.int .i64 0, .string ByteArray.empty, .int .i64 0, .slice none 0 0]) 4 56 Tryz.underlying92 hi hz0 hz1 hz2 rfl (by decide) (.slice a L.length c) L.length (L.flatMap sc) (by rfl) (Sep.ownsRow_at O3.out fun g hg => Below.heap_alloc _ _ _ (O3.out.lt g hg).2) _ (.slice (some ⟨w3.heap.size, 0, none⟩) 1 1) 1 (sc (⟨t0, sy⟩, .slice a3 sy.length c3)) (by rfl) (side_one (w1.heap.size + 1) w3.heap.size (⟨t0, sy⟩, .slice a3 sy.length c3) w3 rfl (by omega)) (by simp [sc, Value.oneCell']) (by unfold maxLen; omega) (by omega) (by simp; omega) ?_; intro v4 w4 hown4 hg4 hloc4; obtain ⟨a4, c4, rfl⟩ := row_shape hown4; have b4 := Gr.boxed w3 (.cells #[.int .i64 t0.k, .string t0.s, .int .i64 (t0.at_ : Int), .slice a3 sy.length c3] 122); have r4 : ∀ k, (Value.slice a L.length c).ownBlock = some k → w1.heap.size + 1 ≤ k := fun k hk => (O3.out.lt k hk).1; have A4 := Lib.hid hown4; have M4 := Lib.hid (((M2.out.fr L3.out (by omega)).went b4).grown hg4 (fun k hk => by have := r4 k hk; omega)); obtain ⟨z0, z1, z2, z3, zf⟩ := M4.out.four; have Z4 := Lib.hid (((Z2.out.fr L3.out (by omega)).went b4).grown hg4 (fun k hk => by have := r4 k hk; omega)); have F4 := Lib.hid ((((F2.out.trans L3.out fun _ h => .inl h)).alloc _).grown hg4 (fun k hk => .inr (by have := r4 k hk; omega))); have P4 := Lib.hid ((P3.out.went (endT_ne HRR.out) b4).fr (endT_ne HRR.out) (Sep.Fr.grown (S := fun k => Value.ownBlock _ = some k) (.refl _ _) hg4 fun k hk => .inl hk) (fun b hb e => by have := r4 b e; omega)); have K4 := Lib.hid (Toks.keep4 T3.out b4 hg4 (fun g hg e => by have h5 := (T3.out.lt g hg).1; have h6 := (O2.out.lt g e).2; have : W.drew.heap.size = W.heap.size := rfl; omega)); have TL4 := Lib.hid (fun x hx => Toks.keep4 (TL3.out x hx) b4 hg4 (AP.out x hx)); have A5 := Lib.hid (And.intro hloc4 b4.size); clear hown4 hg4 hloc4 b4 r4)
          | (go_simp; go_at_call 93; (with_reducible refine SYa.out.mono ?_); rintro e w3 ⟨v3, rfl, hT3, hP3, hF3⟩; obtain ⟨a3, c3, rfl⟩ := row_shape hT3; have l3 : Sep.Fr (fun k => k = p) W w3 := hbd.trans hF3 (fun _ h => .inl h); have L3 := Lib.hid l3; have T3 := Lib.hid hT3; have P3 := Lib.hid hP3; obtain ⟨x0, x1, x2, xf⟩ := (N.out.fr l3 (by omega)).three; obtain ⟨z0, z1, z2, z3, zf⟩ := (M2.out.fr l3 (by omega)).four; have hs3 := l3.size; have O3 := Lib.hid (Sep.ownsRow_at O2.out fun g hg => l3.block g (O2.out.lt g hg).2 (NP.out g (O2.out.lt g hg).1)); have TL3 := Lib.hid (fun x hx => (TL2.out x hx).fr l3 NP.out); have hw3 : w1.heap.size < w3.heap.size := (by omega); have hw3r : wr.heap.size < w3.heap.size := (by omega); clear hT3 hP3 hF3 l3))
        all_goals
          go_wp2
          go_meet
          case rel =>
            rw [HSY.out, HRS.out]
            refine ⟨.slice a4 (L.length + 1) c4, ?_, M4.out.set (j := 3) (by simp) _, Z4.out.fr (Sep.Fr.setCell (S := fun k => k = w1.heap.size) (.refl _ _) ⟨w1.heap.size, 3, none⟩ rfl _) (by omega), ?_, F4.out.setNew _ (by simp; omega) _⟩
            · exact pat_new P4.out (endT_ne HRR.out) (Sep.Fr.setCell (S := fun k => k = w1.heap.size) (.refl _ _) ⟨w1.heap.size, 3, none⟩ rfl _) (by omega)
            · have fq := Sep.Fr.setCell (S := fun k => k = w1.heap.size) (.refl _ w4) ⟨w1.heap.size, 3, none⟩ rfl (.slice a4 (L.length + 1) c4)
              refine SidesV.fr (w := w4) ⟨L ++ [(⟨t0, sy⟩, .slice a3 sy.length c3)], by simp, ?_, fun x hx => ?_, fun x hx g hg => ?_⟩ fq (fun b hb e => by omega)
              · rw [List.length_append, List.flatMap_append]
                simpa using A4.out
              · rcases List.mem_append.1 hx with h | h
                · exact TL4.out x h
                · rw [List.mem_singleton] at h
                  subst h
                  exact K4.out.mono (by have : W.drew.heap.size = W.heap.size := rfl; omega)
              · obtain ⟨hl4, hs4⟩ := A5.out
                rcases List.mem_append.1 hx with h | h
                · intro e
                  rcases hl4 with h5 | h5
                  · exact AP.out x h g hg (h5.symm.trans e)
                  · have h6 := (TL2.out x h).lt g hg
                    rw [h5] at e
                    injection e with e
                    simp at e
                    omega
                · rw [List.mem_singleton] at h
                  subst h
                  intro e
                  have h6 := T3.out.lt g hg
                  rcases hl4 with h5 | h5
                  · have h7 := (O2.out.lt g (h5.symm.trans e)).2
                    have : W.drew.heap.size = W.heap.size := rfl
                    omega
                  · rw [h5] at e
                    injection e with e
                    simp at e
                    omega
      case rest =>
        clear z0 z1 z2 z3 zf c0 x0 x1 x2 hwr hq1 O TL AP M Z F P
        obtain ⟨sv, hP, hM, hZ, hS, hF⟩ := hcut
        obtain ⟨a5, c5, rfl⟩ := hS.len
        generalize (L.map Prod.fst ++ [(⟨t0, symsL (t0 :: l0)⟩ : Side)]).length = n5 at *
        obtain ⟨z0, z1, z2, z3, zf⟩ := hM.four
        obtain ⟨y0, y1, y2, y3, yf⟩ := hZ.four
        have hrl : (restL (t0 :: l0)).length ≤ (t0 :: l0).length := restL_le _
        have I1 := Lib.hid (fun e q h => sides_no (e := e) (q := q) I.out h)
        have I2 := Lib.hid (fun t r h hk => sides_end (t := t) (r := r) I.out h hk)
        have I3 := Lib.hid (fun t r h hk => sides_more (t := t) (r := r) I.out h hk)
        have hh : headT (t0 :: l0) = t0 := rfl
        rw [hh] at I2 I3
        clear hh I
        have M := Lib.hid hM
        have Z := Lib.hid hZ
        have P := Lib.hid hP
        have F := Lib.hid hF
        have S := Lib.hid hS
        have hq0 : w.heap.size < wc.heap.size := hZ.lt
        have hqc : w1.heap.size < wc.heap.size := hM.lt
        have hne := endT_ne HRR.out
        cases ht : takeP [4, 5] (restL (t0 :: l0)) with
        | out => exact absurd ht (takeP_in HRR.out)
        | no e q =>
          obtain rfl := I1.out e q ht
          have T4 := Lib.hid (fun w2 (hb : Below wc.heap.size wc w2) b (hk : KindsAt b [4, 5] w2) => take_any p b 2 2 [4, 5] _ _ w2 ht rfl (by decide) hk (P.out.went hne hb) HRR.out rfl)
          clear hP hM hZ hS hF ht I1 I2 I3 hne z0 z1 z2 z3 zf y0 y1 y2 y3 yf
          go_wp2_with (go_at_call 58; refine (T4.out _ (Gr.boxed _ _) _ ?_).mono ?_; exact kinds2 4 5 wc _ rfl _; rintro e w2 ⟨rfl, hF2⟩; have F2 := Lib.hid (fr_went F.out hp (fr_step (Gr.boxed _ _) hF2)); clear hF2)
          exact ⟨rfl, rfl, F2.out⟩
        | ok t r =>
          obtain ⟨hr, hrl2⟩ := takeP_end ht HRR.out rfl
          have HR := Lib.hid hr
          have hfd := field_k t
          have T4 := Lib.hid (fun w2 (hb : Below wc.heap.size wc w2) b (hk : KindsAt b [4, 5] w2) => take_any p b 2 2 [4, 5] _ _ w2 ht rfl (by decide) hk (P.out.went hne hb) HRR.out rfl)
          by_cases hk : t.k = 5
          · obtain rfl := I2.out t r ht hk
            have hkb : (t.k == 5) = true := by simpa using hk
            clear hP hM hZ hS hF ht I1 I2 I3 hne z0 z1 z2 z3 zf y0 y1 y2 y3 yf hr hk
            go_wp2_with (go_at_call 58; refine (T4.out _ (Gr.boxed _ _) _ ?_).mono ?_; exact kinds2 4 5 wc _ rfl _; rintro e w2 ⟨v2, rfl, rfl, hP2, hF2⟩; have P2 := Lib.hid hP2; have F2 := Lib.hid (fr_went F.out hp (fr_step (Gr.boxed _ _) hF2)); obtain ⟨z0, z1, z2, z3, zf⟩ := ((M.out.went (Gr.boxed _ _)).fr hF2 (by omega)).four; obtain ⟨y0, y1, y2, y3, yf⟩ := ((Z.out.went (Gr.boxed _ _)).fr hF2 (by omega)).four; have S2 := Lib.hid ((S.out.went (Gr.boxed _ _)).fr hF2 (fun b hb e => by omega)); clear hP2 hF2)
            refine bodyPost_ret (v := .agg #[.int .i64 left.k, .string left.s, .int .i64 (left.at_ : Int), .slice a5 n5 c5]) (by simp [results, Tryz.results59, go_sem, yf, y0, y1, y2, y3]) rfl ⟨_, rfl, ⟨_, rfl, ?_⟩, ?_, ?_⟩
            · exact (SidesV.fr S2.out (fr_set4 _ _ _ _ _ _) fun b hb e => by omega).mono (by omega)
            · exact pat_new P2.out (endT_ne HR.out) (fr_set4 _ _ _ _ _ _) hp
            · exact fr_new F2.out (fr_set4 _ _ _ _ _ _) (Nat.le_refl _)
          · have hI := I3.out t r ht hk
            have I := Lib.hid hI
            have hkb : (t.k == 5) = false := by simpa using hk
            have hrl3 : r.length < (t0 :: l0).length := by omega
            have HL3 := Lib.hid hrl3
            clear hP hM hZ hS hF ht I1 I2 I3 hne z0 z1 z2 z3 zf y0 y1 y2 y3 yf hr hk hI
            go_wp2_with (go_at_call 58; refine (T4.out _ (Gr.boxed _ _) _ ?_).mono ?_; exact kinds2 4 5 wc _ rfl _; rintro e w2 ⟨v2, rfl, rfl, hP2, hF2⟩; have P2 := Lib.hid hP2; have F2 := Lib.hid (fr_went F.out hp (fr_step (Gr.boxed _ _) hF2)); have M2 := Lib.hid ((M.out.went (Gr.boxed _ _)).fr hF2 (by omega)); have Z2 := Lib.hid ((Z.out.went (Gr.boxed _ _)).fr hF2 (by omega)); have S2 := Lib.hid ((S.out.went (Gr.boxed _ _)).fr hF2 (fun b hb e => by omega)); clear hP2 hF2)
            go_roundg r.length
            case rel => exact ⟨r, _, .slice a5 n5 c5, rfl, HR.out, by simp; omega, I.out, P2.out, M2.out, Z2.out, S2.out, F2.out⟩
            case measure => exact HL3.out

set_option maxRecDepth 100000 in
set_option maxHeartbeats 4000000 in
theorem rule_no1 (p : Nat) (l : List Tok) (e1 : Int) (q1 : Nat) (w : World) (h : PAt p l w) (hl : EndT l) (h1 : takeP [1] l = .no e1 q1) :
    Calls Tryz.prog 59 #[.pointer (some ⟨p, 0, none⟩)] w (Gave p (RulV w.heap.size) (.no e1 q1) w) := by
  have hne := endT_ne hl
  have T1 := Lib.hid (fun w1 (hb : Below w.heap.size w w1) b (hk : KindsAt b [1] w1) => take_any p b 1 1 [1] l _ w1 h1 rfl (by decide) hk (h.went hne hb) hl rfl)
  clear h hne h1
  go_enter Tryz.func59, Tryz.ntmps59
  go_wp2_with (go_at_call 58; refine (T1.out _ (Gr.step (Gr.boxed _ _) (Gr.boxed _ _)) _ ?_).mono ?_; exact kinds1 1 (w.alloc _) _ (by simp) _; rintro e w1 ⟨rfl, hF⟩; have F := Lib.hid (fr_step (Gr.step (Gr.boxed _ _) (Gr.boxed _ _)) hF); clear hF)
  exact ⟨rfl, rfl, F.out⟩

set_option maxRecDepth 100000 in
set_option maxHeartbeats 4000000 in
theorem rule_no2 (p : Nat) (l : List Tok) (m : Tok) (r : List Tok) (e1 : Int) (q1 : Nat) (w : World) (h : PAt p l w) (hl : EndT l) (h1 : takeP [1] l = .ok m r) (hr : EndT r) (h2 : takeP [3] r = .no e1 q1) :
    Calls Tryz.prog 59 #[.pointer (some ⟨p, 0, none⟩)] w (Gave p (RulV w.heap.size) (.no e1 q1) w) := by
  have hne := endT_ne hl
  have hnr := endT_ne hr
  have hp := h.lt
  have T1 := Lib.hid (fun w1 (hb : Below w.heap.size w w1) b (hk : KindsAt b [1] w1) => take_any p b 1 1 [1] l _ w1 h1 rfl (by decide) hk (h.went hne hb) hl rfl)
  have T2 := Lib.hid (fun w1 w2 (hP : PAt p r w1) (hb : Below w1.heap.size w1 w2) b (hk : KindsAt b [3] w2) => take_any p b 1 1 [3] r _ w2 h2 rfl (by decide) hk (hP.went hnr hb) hr rfl)
  clear h hne h1 h2 hl hr
  go_enter Tryz.func59, Tryz.ntmps59
  go_wp2_with (first
    | (go_at_call 58; ((with_reducible refine (T1.out _ (Gr.step (Gr.boxed _ _) (Gr.boxed _ _)) _ ?_).mono ?_); exact kinds1 1 (w.alloc _) _ (by simp) _; rintro e w1 ⟨v1, rfl, rfl, hP1, hF1⟩; have P1 := Lib.hid hP1; have F1 := Lib.hid (fr_step (Gr.step (Gr.boxed _ _) (Gr.boxed _ _)) hF1); clear hP1 hF1))
    | (go_at_call 58; refine (T2.out w1 _ P1.out ?_ _ ?_).mono ?_; exact Gr.step (Gr.boxed _ _) (Gr.boxed _ _); exact kinds1 3 (w1.alloc _) _ (by simp) _; rintro e w2 ⟨rfl, hF2⟩; have F2 := Lib.hid (fr_went F1.out hp (fr_step (Gr.step (Gr.boxed _ _) (Gr.boxed _ _)) hF2)); clear hF2))
  exact ⟨rfl, rfl, F2.out⟩

theorem sides_is {r2 : List Tok} (h : EndT r2) : ∃ x, Is (fun f => sidesP f r2 []) x := ⟨_, r2.length, rfl, (sidesP_in _ _ _ h (Nat.le_refl _)).1⟩

theorem rule_any (p : Nat) (l : List Tok) (x : Pr Rul) (w : World) (hx : Is (fun f => ruleP f l) x) (h : PAt p l w) (hl : EndT l) (hlen : l.length ≤ 10000) :
    Calls Tryz.prog 59 #[.pointer (some ⟨p, 0, none⟩)] w (Gave p (RulV w.heap.size) x w) := by
  obtain ⟨f, hf, hxo⟩ := hx
  simp only [ruleP] at hf
  cases h1 : takeP [1] l with
  | out => exact absurd h1 (takeP_in hl)
  | no e1 q1 =>
    rw [h1] at hf
    simp only [Pr.bind] at hf
    subst hf
    exact rule_no1 p l e1 q1 w h hl h1
  | ok m r =>
    obtain ⟨hr, hrl⟩ := takeP_end h1 hl rfl
    rw [h1] at hf
    simp only [Pr.bind] at hf
    cases h2 : takeP [3] r with
    | out => exact absurd h2 (takeP_in hr)
    | no e1 q1 =>
      rw [h2] at hf
      simp only at hf
      subst hf
      exact rule_no2 p l m r e1 q1 w h hl h1 hr h2
    | ok t2 r2 =>
      obtain ⟨hr2, hrl2⟩ := takeP_end h2 hr rfl
      rw [h2] at hf
      simp only at hf
      cases h3 : sidesP f r2 [] with
      | out =>
        rw [h3] at hf
        exact absurd hf.symm hxo
      | no e q =>
        rw [h3] at hf
        simp only at hf
        subst hf
        exact rule_loop p l m r t2 r2 (.no e q) w h hl h1 hr h2 hr2 (by omega) ⟨f, h3, (fun h => by cases h)⟩
      | ok S r3 =>
        rw [h3] at hf
        simp only at hf
        subst hf
        exact rule_loop p l m r t2 r2 (.ok S r3) w h hl h1 hr h2 hr2 (by omega) ⟨f, h3, (fun h => by cases h)⟩

end Go.Proofs.YtimfiaphhomelaaGreat.Rd
