/-
  The plain answers of layer 11: their sets in memory; in, begins. Condition: the sets are those of a grammar, or nil; a list is within a machine's reach.
-/
import Derived.Test.YtoipinnfmjaaaaaGreatDoorFirstRRow
import Derived.Test.YtoipinnfmjaaaaaGreatDoorFirstOf
namespace Go.Proofs.YtoipinnfmjaaaaaGreatDoor.Fr
open Go.RowKit Go.Maps
open Go.Proofs.YtoipinnfmjaaaaaGreatDoor.Gr
open Go.Proofs.YtoipinnfmjaaaaaGreatDoor.Fi
open Go.Proofs.YtoipinnfmjaaaaaGreatDoor.Bt (Keeps)
open Go.Proofs.YtoipinnfmjaaaaaGreatDoor.Rw (Bk)
set_option linter.unusedVariables false

/-- Rows, each in a block of its own. -/
structure RFam (I : Ix → Prop) (D : Ix → Nat) (M : Ix → Nat) (V : Ix → Nat → Bool) (w : World) : Prop where
  at_ : ∀ k, I k → BRow (D k) (M k) (V k) w
  inj : ∀ j k, I j → I k → D j = D k → j = k
theorem RFam.went {I : Ix → Prop} {D M : Ix → Nat} {V : Ix → Nat → Bool} {w w' : World} (h : RFam I D M V w) (hb : Below w.heap.size w w') : RFam I D M V w' := ⟨fun k hk => (h.at_ k hk).went hb, h.inj⟩
theorem RFam.wrote {I : Ix → Prop} {D M : Ix → Nat} {V : Ix → Nat → Bool} {w w' : World} (h : RFam I D M V w) {k : Ix} (hk : I k) {B : Nat → Bool} (hs : BRow (D k) (M k) B w') (hK : Keeps (D k) w w') : RFam I D M (upd V k B) w' := by
  refine ⟨fun j hj => ?_, h.inj⟩
  by_cases e : j = k
  · subst e
    rw [upd_hit]
    exact hs
  · rw [upd_miss _ _ e]
    exact (h.at_ j hj).keeps hK (fun e2 => e (h.inj j k hj hk e2))

/-- All rows but one more. -/
def Jn (n : Nat) : Ix → Prop
  | .e => True
  | .f s => s < n
  | .g s => s < n
  | .o => False
/-- The struct and its rows. -/
structure RAt (D : Ix → Nat) (p q1 q2 k1 k2 n : Nat) (h : Sh) (G : Gram) (V : Ix → Nat → Bool) (w : World) : Prop where
  box : Bk p #[.slice h.a1 G.terms.length h.c1, .slice h.a2 G.nons.length h.c2, .slice h.a3 G.rules.length h.c3, .int .i64 G.start, .slice (some ⟨D .e, 0, none⟩) n n, .slice (some ⟨q1, 0, none⟩) n k1, .slice (some ⟨q2, 0, none⟩) n k2] 49 w
  begins : ∀ s, s < n → w.cell? ⟨q1, s, none⟩ = some (.slice (some ⟨D (.f s), 0, none⟩) (G.terms.length + 1) (G.terms.length + 1))
  behind : ∀ s, s < n → w.cell? ⟨q2, s, none⟩ = some (.slice (some ⟨D (.g s), 0, none⟩) (G.terms.length + 1) (G.terms.length + 1))
  fam : RFam (Jn n) D (rm G.terms.length n) V w
  off : ∀ k, Jn n k → D k ≠ p ∧ D k ≠ q1 ∧ D k ≠ q2
  tn : G.terms.length < n
  n4 : n ≤ 4000
theorem RAt.went {D : Ix → Nat} {p q1 q2 k1 k2 n : Nat} {h : Sh} {G : Gram} {V : Ix → Nat → Bool} {w w' : World} (k : RAt D p q1 q2 k1 k2 n h G V w) (hb : Below w.heap.size w w') : RAt D p q1 q2 k1 k2 n h G V w' :=
  ⟨k.box.went hb, fun s hs => cell_later hb (k.begins s hs), fun s hs => cell_later hb (k.behind s hs), k.fam.went hb, k.off, k.tn, k.n4⟩
theorem RAt.wrote {D : Ix → Nat} {p q1 q2 k1 k2 n : Nat} {h : Sh} {G : Gram} {V : Ix → Nat → Bool} {w w' : World} (l : RAt D p q1 q2 k1 k2 n h G V w) {k : Ix} (hk : Jn n k) {B : Nat → Bool} (hs : BRow (D k) (rm G.terms.length n k) B w') (hK : Keeps (D k) w w') : RAt D p q1 q2 k1 k2 n h G (upd V k B) w' := by
  have ho := l.off k hk
  have hF : Sep.Fr (fun b => b = D k) w w' := ⟨hK.os, hK.tape, hK.output, hK.size, fun i hi hb => hK.block i hi hb⟩
  exact ⟨l.box.fr hF (fun e => ho.1 e.symm), fun s hs => hF.cell (l.begins s hs) (fun e => ho.2.1 e.symm), fun s hs => hF.cell (l.behind s hs) (fun e => ho.2.2 e.symm), l.fam.wrote hk hs hK, l.off, l.tn, l.n4⟩
theorem RAt.eq {D : Ix → Nat} {p q1 q2 k1 k2 n : Nat} {h : Sh} {G : Gram} {V U : Ix → Nat → Bool} {w : World} (k : RAt D p q1 q2 k1 k2 n h G V w) (e : V = U) : RAt D p q1 q2 k1 k2 n h G U w := e ▸ k
theorem seven {q : Nat} {a b c d e f g : Value} {T : TypeId} {w : World} (h : Bk q #[a, b, c, d, e, f, g] T w) : w.cell? ⟨q, 0, none⟩ = some a ∧ w.cell? ⟨q, 1, none⟩ = some b ∧ w.cell? ⟨q, 2, none⟩ = some c ∧ w.cell? ⟨q, 3, none⟩ = some d ∧ w.cell? ⟨q, 4, none⟩ = some e ∧ w.cell? ⟨q, 5, none⟩ = some f ∧ w.cell? ⟨q, 6, none⟩ = some g :=
  ⟨h.cell rfl, h.cell rfl, h.cell rfl, h.cell rfl, h.cell rfl, h.cell rfl, h.cell rfl⟩

/-! ### in -/

theorem in_nil (x : Int) (w : World) : Calls Tryz.prog 30 #[.pointer none, .int .i64 x] w (fun e w' => e = .returned (.bool false) ∧ w = w') := by
  go_enter Tryz.func30, Tryz.ntmps30
  go_wp2
  go_ret
  exact ⟨rfl, rfl⟩
theorem in_at {D : Ix → Nat} {p q1 q2 k1 k2 n : Nat} {h : Sh} {G : Gram} {V : Ix → Nat → Bool} (w : World) (k : RAt D p q1 q2 k1 k2 n h G V w) (x : Int) :
    Calls Tryz.prog 30 #[.pointer (some ⟨p, 0, none⟩), .int .i64 x] w (fun e w' => e = .returned (.bool (symB n x)) ∧ w = w') := by
  obtain ⟨x0, x1, x2, x3, x4, x5, x6⟩ := seven k.box
  have h4 := k.n4
  clear k
  by_cases h0 : 0 ≤ x
  · by_cases h1 : x < (n : Int)
    · have E := Lib.hid (show symB n x = true from decide_eq_true ⟨h0, h1⟩)
      have d0 : decide (0 ≤ x) = true := decide_eq_true h0
      have d1 : decide (x < (n : Int)) = true := decide_eq_true h1
      go_enter Tryz.func30, Tryz.ntmps30
      go_wp2
      go_ret
      exact ⟨by rw [E.out]; rfl, rfl⟩
    · have E := Lib.hid (show symB n x = false from decide_eq_false fun h => h1 h.2)
      have d0 : decide (0 ≤ x) = true := decide_eq_true h0
      have d1 : decide (x < (n : Int)) = false := decide_eq_false h1
      go_enter Tryz.func30, Tryz.ntmps30
      go_wp2
      go_ret
      exact ⟨by rw [E.out]; rfl, rfl⟩
  · have E := Lib.hid (show symB n x = false from decide_eq_false fun h => h0 h.1)
    have d0 : decide (0 ≤ x) = false := decide_eq_false h0
    go_enter Tryz.func30, Tryz.ntmps30
    go_wp2
    go_ret
    exact ⟨by rw [E.out]; rfl, rfl⟩

/-! ### begins -/

/-- A new row comes back, and whether all can be empty. -/
def BegEnd (m : Nat) (C : Int → Bool) (F : Int → Int → Bool) (L : List Int) (w : World) (e : Ending) (w' : World) : Prop :=
  ∃ d, e = .returned (.tuple #[.slice (some ⟨d, 0, none⟩) m m, .bool (allC C L)]) ∧ BRow d m (rw' (lineB C F L)) w' ∧ w.heap.size ≤ d ∧ Below w.heap.size w w'
def BeRel (m d : Nat) (C : Int → Bool) (F : Int → Int → Bool) (L : List Int) (W : World) (i : Value) (w : World) : Prop :=
  ∃ k : Nat, k ≤ L.length ∧ i = .int .i64 k ∧ (∀ j (h : j < L.length), j < k → C L[j] = true) ∧ BRow d m (jn (fun _ => false) F (L.take k)) w ∧ Below W.heap.size W w
theorem jn_line {C : Int → Bool} {F : Int → Int → Bool} {L : List Int} : jn (fun _ => false) F (L.take (headN C L)) = rw' (lineB C F L) := by
  funext i
  unfold jn rw'
  rw [head_line]
  rfl

set_option maxRecDepth 100000 in
set_option maxHeartbeats 8000000 in
theorem begins_at {D : Ix → Nat} {p q1 q2 k1 k2 n : Nat} {h : Sh} {G : Gram} {C : Int → Bool} {F B : Int → Int → Bool} (w : World) (k : RAt D p q1 q2 k1 k2 n h G (tv C F B no0) w) (hT : TOk G.terms.length n C F B) (L : List Int) (a : Option Addr) (c : Nat) (hR : Sep.Reads a (ivs L) w) (hL : LOk L c) :
    Calls Tryz.prog 26 #[.pointer (some ⟨p, 0, none⟩), .slice a L.length c] w (BegEnd (G.terms.length + 1) C F L w) := by
  have H := Lib.hid (fun w1 (b : Below w.heap.size w w1) => k.went b)
  have IN := Lib.hid (fun x w1 (b : Below w.heap.size w w1) => in_at w1 (k.went b) x)
  have RR := Lib.hid (fun w1 (b : Below w.heap.size w w1) => Sep.Reads.below hR b (Nat.le_refl _))
  have TO := Lib.hid hT
  have h4 := k.n4
  have htn := k.tn
  have hl := hL.len
  have hmk := fun w => show (Instr.makeSlice 45 (.int .i64 ((G.terms.length : Int) + 1)) (.int .i64 ((G.terms.length : Int) + 1))).run Tryz.prog w = _ from make_bools (G.terms.length + 1) (by omega) w
  obtain ⟨x0, x1, x2, x3, x4, x5, x6⟩ := seven k.box
  have B0 := Lib.hid (show BRow w.heap.size (G.terms.length + 1) (jn (fun _ => false) F (L.take 0)) (w.alloc (.cells (madeCells #[.bool false] (G.terms.length + 1)) 4)) by rw [List.take_zero, jn_nil]; exact brow_new _ w)
  clear k hT hR hL
  go_enter Tryz.func26, Tryz.ntmps26
  go_wp2
  clear hmk x0 x1 x2 x3 x4 x5 x6
  go_loopw [7] (fun i wr => BeRel (G.terms.length + 1) w.heap.size C F L w i wr) (fun i _ => L.length - (intOf i).toNat)
  case atStart => exact ⟨0, Nat.zero_le _, rfl, (fun j _ hj => absurd hj (by omega)), B0.out, boxed _ _⟩
  case round =>
    clear B0
    obtain ⟨k, hk, rfl, hP, hR, hb⟩ := hrel
    have B1 := Lib.hid hb
    have PP := Lib.hid hP
    have R1 := Lib.hid hR
    clear hb hP hR
    by_cases hlt : k < L.length
    · obtain ⟨b, o, rfl, hc0⟩ := int_at (RR.out w (.refl _ _)) hlt
      have hc := cell_later B1.out hc0
      have hbw : b < w.heap.size := World.block_lt_of_cell? w ⟨b, o + k, none⟩ hc0
      have HC0 := Lib.hid hc0
      clear hc0
      have IC := Lib.hid (IN.out L[k] _ B1.out)
      have HH := Lib.hid (fun (hz : C L[k] = false) => headN_hit hlt PP.out hz)
      have TK := Lib.hid (take_next hlt)
      have P2 := Lib.hid (fun (hz : C L[k] = true) => show ∀ j (h : j < L.length), j < k + 1 → C L[j] = true from fun j h hj => by
        by_cases e : j = k
        · subst e
          exact hz
        · exact PP.out j h (by omega))
      generalize L[k] = x at *
      by_cases hx : 0 ≤ x ∧ x < (n : Int)
      · have e : symB n x = true := decide_eq_true hx
        obtain ⟨s, rfl⟩ : ∃ s : Nat, x = (s : Int) := ⟨x.toNat, by omega⟩
        have hs : s < n := by omega
        rw [e] at IC
        clear e hx
        have HW := H.out _ B1.out
        obtain ⟨x0, x1, x2, x3, x4, x5, x6⟩ := seven HW.box
        have z1 := HW.begins s hs
        have z2 := (HW.fam.at_ .e trivial).at_ s hs
        have hlo := (H.out w (.refl _ _)).fam.at_ (.f s) hs
        have PC := Lib.hid (put_other w.heap.size (D (.f s)) (G.terms.length + 1) (G.terms.length + 1) (G.terms.length + 1) _ (rw' (F (s : Int))) wr R1.out (HW.fam.at_ (.f s) hs) (by have := hlo.lt; omega) (fun i hi => by have := (TO.out.f1 _ _ hi).2; omega) (by omega))
        have JS := Lib.hid (show (fun i => jn (fun _ => false) F (L.take k) i || rw' (F (s : Int)) i) = jn (fun _ => false) F (L.take (k + 1)) from by
          rw [TK.out]
          funext i
          unfold jn rw'
          rw [List.any_append]
          simp)
        clear HW hlo
        have z2' : wr.cell? ⟨D .e, s, none⟩ = some (.bool (C (s : Int))) := z2
        have hbd := drawn wr
        clear z2
        have i0 : (0 : Int) ≤ (s : Int) := by omega
        have i1 : (s : Int) < (n : Int) := by omega
        have k0 : (0 : Int) ≤ (k : Int) := by omega
        have k1' : (k : Int) < (L.length : Int) := by omega
        have hbnd : w.heap.size < wr.heap.size := R1.out.lt
        have hne1 : p ≠ w.heap.size := by have := (H.out w (.refl _ _)).box.lt; omega
        have hq1 : q1 < w.heap.size := World.block_lt_of_cell? w ⟨q1, s, none⟩ ((H.out w (.refl _ _)).begins s hs)
        have HQ := Lib.hid (show ∀ w', Sep.Fr (fun i => i = w.heap.size) wr w' → w'.cell? ⟨p, 5, none⟩ = some (.slice (some ⟨q1, 0, none⟩) n k1) ∧ w'.cell? ⟨b, o + k, none⟩ = some (.int .i64 (s : Int)) ∧ w'.cell? ⟨q1, s, none⟩ = some (.slice (some ⟨D (.f s), 0, none⟩) (G.terms.length + 1) (G.terms.length + 1)) ∧ Sep.Fr (fun i => i = w.heap.size) wr w' from
          fun w' hF => ⟨hF.cell x5 hne1, hF.cell hc (show ¬ b = w.heap.size by omega), hF.cell z1 (show ¬ q1 = w.heap.size by omega), hF⟩)
        have PC2 := Lib.hid (fun w1 (bl : Below wr.heap.size wr w1) => put_other w.heap.size (D (.f s)) (G.terms.length + 1) (G.terms.length + 1) (G.terms.length + 1) _ (rw' (F (s : Int))) w1 (R1.out.went bl) ((H.out _ (Gr.step B1.out bl)).fam.at_ (.f s) hs) (by have := (((H.out w (.refl _ _)).fam.at_ (.f s) hs)).lt; omega) (fun i hi => by have := (TO.out.f1 _ _ hi).2; omega) (by omega))
        have hf0 : Sep.Fr (fun i => i = w.heap.size) wr wr.drew := (Sep.Fr.refl _ _).drew
        clear PC x0 x1 x2 x3 x4 x6 z2'
        go_wp2_with (go_at_call 30; refine IC.out.mono ?_; rintro e w1 ⟨rfl, rfl⟩)
        clear x5 z1
        go_region_held3 (fun w' => w'.cell? ⟨p, 5, none⟩ = some (.slice (some ⟨q1, 0, none⟩) n k1) ∧ w'.cell? ⟨b, o + k, none⟩ = some (.int .i64 (s : Int)) ∧ w'.cell? ⟨q1, s, none⟩ = some (.slice (some ⟨D (.f s), 0, none⟩) (G.terms.length + 1) (G.terms.length + 1)) ∧ Sep.Fr (fun i => i = w.heap.size) wr w')
          (exact HQ.out _ (by assumption))
          (first
            | (go_at_call 27; (with_reducible refine (PC2.out _ hbd).mono ?_); rintro e w2 ⟨b1, rfl, _, hr2, hk2⟩; have hF2 : Sep.Fr (fun i => i = w.heap.size) wr w2 := hf0.trans ⟨hk2.os, hk2.tape, hk2.output, hk2.size, fun i hi hb => hk2.block i hi hb⟩ (fun _ h => .inl h); have B2 := Lib.hid (below_keeps (Gr.step B1.out hbd) (Nat.le_refl _) hk2); have R2 := Lib.hid hr2; clear hr2 hk2)
            | fail)
        rw [JS.out] at R2
        have HW2 := H.out _ B2.out
        obtain ⟨x0, x1, x2, x3, x4, x5, x6⟩ := seven HW2.box
        have z2 : w2.cell? ⟨D .e, s, none⟩ = some (.bool (C (s : Int))) := (HW2.fam.at_ .e trivial).at_ s hs
        have hc := cell_later B2.out HC0.out
        clear HW2 R1 B1 HQ PC2 hF2 hf0 hbd
        cases hz : C (s : Int) with
        | true =>
          have P3 := Lib.hid (P2.out hz)
          rw [hz] at z2
          clear hz P2 HH
          go_wp2_with fail
          go_quiet (fail)
          have B3 := Lib.hid (Gr.step B2.out (drawnN' _ nq))
          have R3 := Lib.hid (R2.out.went (drawnN' _ nq))
          go_wp2
          go_roundw
          case rel => exact ⟨k + 1, by omega, by go_num, P3.out, R3.out, B3.out⟩
          case measure => simp [intOf]; omega
        | false =>
          obtain ⟨h1, h2⟩ := HH.out hz
          have H1 := Lib.hid h1
          have H2 := Lib.hid h2
          rw [hz] at z2
          clear hz P2 HH h1 h2
          go_wp2_with fail
          go_quiet (fail)
          have B3 := Lib.hid (Gr.step B2.out (drawnN' _ nq))
          have R3 := Lib.hid (R2.out.went (drawnN' _ nq))
          go_wp2
          go_ret2
          refine ⟨w.heap.size, ?_, ?_, Nat.le_refl _, B3.out⟩
          · rw [H2.out]
            rfl
          · have := R3.out
            rw [← H1.out, jn_line] at this
            exact this
      · have e : symB n x = false := decide_eq_false hx
        have hz : C x = false := by
          cases hz : C x with
          | false => rfl
          | true => exact absurd (TO.out.c x hz) hx
        obtain ⟨h1, h2⟩ := HH.out hz
        have H1 := Lib.hid h1
        have H2 := Lib.hid h2
        have JS := Lib.hid (show jn (fun _ => false) F (L.take k) = jn (fun _ => false) F (L.take (k + 1)) from by
          rw [TK.out]
          exact jn_none _ fun t => by
            cases hf : F x t with
            | false => rfl
            | true => exact absurd (TO.out.f2 x t hf) hx)
        rw [e] at IC
        clear e hx hz h1 h2
        go_wp2_with (go_at_call 30; refine IC.out.mono ?_; rintro e w1 ⟨rfl, rfl⟩)
        go_ret2
        refine ⟨w.heap.size, ?_, ?_, Nat.le_refl _, B1.out⟩
        · rw [H2.out]
          rfl
        · have := R1.out
          rw [JS.out, ← H1.out, jn_line] at this
          exact this
    · obtain ⟨h1, h2⟩ := headN_all (C := C) (l := L) fun j hj => PP.out j hj (by omega)
      have H1 := Lib.hid h1
      have H2 := Lib.hid h2
      have E : k = L.length := by omega
      subst E
      clear h1 h2
      go_wp2
      go_ret2
      refine ⟨w.heap.size, ?_, ?_, Nat.le_refl _, B1.out⟩
      · rw [H2.out]
        rfl
      · have := R1.out
        rw [← H1.out, jn_line] at this
        exact this

end Go.Proofs.YtoipinnfmjaaaaaGreatDoor.Fr
