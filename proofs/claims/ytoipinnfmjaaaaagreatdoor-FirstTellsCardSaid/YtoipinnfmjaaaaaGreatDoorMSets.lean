/-
  Package first: addEmpty, addFirst: what a rule adds. Condition: the sets are those of a grammar; the rule's left side is a symbol.
  Package first: the small functions: symbol, non, first, follow, terminals, Empty. Condition: the sets are those of a grammar, or nil.
  Package first: head: the symbols of a list up to the first one that cannot be empty. Condition: the sets are those of a grammar; the list is within a machine's reach.
  Package first: join: the sets of symbols are joined to one of the sets. Condition: the sets are those of a grammar; the list is within a machine's reach.
-/
import Derived.Test.YtoipinnfmjaaaaaGreatDoorFirstAt
import Derived.Deep.QuietTactic
import Derived.BigQuiet
import Derived.Test.YtoipinnfmjaaaaaGreatDoorMCheck
namespace Go.Proofs.YtoipinnfmjaaaaaGreatDoor.Fi
open Go.RowKit Go.Maps
open Go.Proofs.YtoipinnfmjaaaaaGreatDoor.Gr (Gram nonB termB top names nameS checkN termB_iff nonB_iff Is boxed step cell_later bool_of int_of)
open Go.Proofs.YtoipinnfmjaaaaaGreatDoor.Bt (SetAt SetV Keeps OtherV Upto has)
open Go.Proofs.YtoipinnfmjaaaaaGreatDoor.Rw (Bk)
set_option linter.unusedVariables false

theorem Bk.five {q : Nat} {a b c d e : Value} {T : TypeId} {w : World} (h : Bk q #[a, b, c, d, e] T w) : w.cell? ⟨q, 0, none⟩ = some a ∧ w.cell? ⟨q, 1, none⟩ = some b ∧ w.cell? ⟨q, 2, none⟩ = some c ∧ w.cell? ⟨q, 3, none⟩ = some d ∧ w.cell? ⟨q, 4, none⟩ = some e :=
  ⟨h.cell rfl, h.cell rfl, h.cell rfl, h.cell rfl, h.cell rfl⟩
def symB (n : Nat) (x : Int) : Bool := decide (0 ≤ x ∧ x < (n : Int))
def ntB (t n : Nat) (x : Int) : Bool := decide ((t : Int) < x ∧ x < (n : Int))

theorem symbol_any (t n : Nat) (x : Int) (w : World) (hn : n ≤ 4000) :
    Calls Tryz.prog 59 #[.agg #[.int .i64 (t : Int), .int .i64 (n : Int)], .int .i64 x] w (Is (.bool (symB n x)) w) := by
  go_enter Tryz.func59, Tryz.ntmps59
  go_wp2
  all_goals
    go_ret
    refine ⟨bool_of ?_, boxed _ _⟩
    go_light
    unfold symB
    first | (rw [decide_eq_true_iff]; omega) | (rw [decide_eq_false_iff_not]; omega) | (rw [Bool.eq_iff_iff]; simp only [decide_eq_true_eq]; omega)

theorem nt_any (t n : Nat) (x : Int) (w : World) (hn : n ≤ 4000) :
    Calls Tryz.prog 47 #[.agg #[.int .i64 (t : Int), .int .i64 (n : Int)], .int .i64 x] w (Is (.bool (ntB t n x)) w) := by
  go_enter Tryz.func47, Tryz.ntmps47
  go_wp2
  all_goals
    go_ret
    refine ⟨bool_of ?_, boxed _ _⟩
    go_light
    unfold ntB
    first | (rw [decide_eq_true_iff]; omega) | (rw [decide_eq_false_iff_not]; omega) | (rw [Bool.eq_iff_iff]; simp only [decide_eq_true_eq]; omega)

/-- Where the set of a symbol lies. -/
def fptr (P : Ix → Nat) (n : Nat) (x : Int) : Value := if 0 ≤ x ∧ x < (n : Int) then .pointer (some ⟨P (.f x.toNat), 0, none⟩) else .pointer none
def gptr (P : Ix → Nat) (t n : Nat) (x : Int) : Value := if (t : Int) < x ∧ x < (n : Int) then .pointer (some ⟨P (.g x.toNat), 0, none⟩) else .pointer none

theorem first_nil (x : Int) (w : World) : Calls Tryz.prog 31 #[.pointer none, .int .i64 x] w (Is (.pointer none) w) := by
  go_enter Tryz.func31, Tryz.ntmps31
  go_wp2
  go_ret
  exact ⟨rfl, .refl _ _⟩
theorem follow_nil (x : Int) (w : World) : Calls Tryz.prog 34 #[.pointer none, .int .i64 x] w (Is (.pointer none) w) := by
  go_enter Tryz.func34, Tryz.ntmps34
  go_wp2
  go_ret
  exact ⟨rfl, .refl _ _⟩
theorem empty_nil (x : Int) (w : World) : Calls Tryz.prog 9 #[.pointer none, .int .i64 x] w (Is (.bool false) w) := by
  go_enter Tryz.func9, Tryz.ntmps9
  go_wp2
  go_ret
  exact ⟨rfl, .refl _ _⟩

set_option maxHeartbeats 2000000 in
theorem first_at {I : Ix → Prop} {P D : Ix → Nat} {p q1 q2 t n : Nat} {V : Ix → Nat → Bool} (w : World) (h : SAt I P D p q1 q2 t n V w) (x : Int) :
    Calls Tryz.prog 31 #[.pointer (some ⟨p, 0, none⟩), .int .i64 x] w (Is (fptr P n x) w) := by
  have H := Lib.hid h
  have S := Lib.hid (fun w1 => symbol_any t n x w1 h.n4)
  have h4 := h.n4
  obtain ⟨x0, x1, x2, x3, x4⟩ := Bk.five h.box
  clear h
  by_cases hx : 0 ≤ x ∧ x < (n : Int)
  · have e : symB n x = true := decide_eq_true hx
    obtain ⟨s, rfl⟩ : ∃ s : Nat, x = (s : Int) := ⟨x.toNat, by omega⟩
    have EF := Lib.hid (show fptr P n (s : Int) = .pointer (some ⟨P (.f s), 0, none⟩) by unfold fptr; rw [if_pos hx]; rfl)
    have hs : s < n := by omega
    rw [e] at S
    clear e
    go_enter Tryz.func31, Tryz.ntmps31
    go_wp2_with (go_at_call 59; refine (S.out _).mono ?_; rintro e w1 ⟨rfl, hb⟩; have HB := Lib.hid hb; have y3 := cell_later hb x3; have z := cell_later hb (H.out.firsts s hs); clear hb x0 x1 x2 x3 x4)
    go_ret
    rw [EF.out]
    exact ⟨rfl, HB.out⟩
  · have e : symB n x = false := decide_eq_false hx
    have EF := Lib.hid (show fptr P n x = .pointer none by unfold fptr; rw [if_neg hx])
    rw [e] at S
    clear e hx
    go_enter Tryz.func31, Tryz.ntmps31
    go_wp2_with (go_at_call 59; refine (S.out _).mono ?_; rintro e w1 ⟨rfl, hb⟩; have HB := Lib.hid hb; clear hb)
    go_ret
    rw [EF.out]
    exact ⟨rfl, HB.out⟩

set_option maxHeartbeats 2000000 in
theorem follow_at {I : Ix → Prop} {P D : Ix → Nat} {p q1 q2 t n : Nat} {V : Ix → Nat → Bool} (w : World) (h : SAt I P D p q1 q2 t n V w) (x : Int) :
    Calls Tryz.prog 34 #[.pointer (some ⟨p, 0, none⟩), .int .i64 x] w (Is (gptr P t n x) w) := by
  have H := Lib.hid h
  have S := Lib.hid (fun w1 => nt_any t n x w1 h.n4)
  have h4 := h.n4
  obtain ⟨x0, x1, x2, x3, x4⟩ := Bk.five h.box
  clear h
  by_cases hx : (t : Int) < x ∧ x < (n : Int)
  · have e : ntB t n x = true := decide_eq_true hx
    obtain ⟨s, rfl⟩ : ∃ s : Nat, x = (s : Int) := ⟨x.toNat, by omega⟩
    have EF := Lib.hid (show gptr P t n (s : Int) = .pointer (some ⟨P (.g s), 0, none⟩) by unfold gptr; rw [if_pos hx]; rfl)
    have hs : s < n := by omega
    have hz := H.out.follows s hs
    rw [if_pos (by omega)] at hz
    have HZ := Lib.hid hz
    rw [e] at S
    clear e hz
    go_enter Tryz.func34, Tryz.ntmps34
    go_wp2_with (go_at_call 47; refine (S.out _).mono ?_; rintro e w1 ⟨rfl, hb⟩; have HB := Lib.hid hb; have y3 := cell_later hb x4; have z := cell_later hb HZ.out; clear hb x0 x1 x2 x3 x4)
    go_ret
    rw [EF.out]
    exact ⟨rfl, HB.out⟩
  · have e : ntB t n x = false := decide_eq_false hx
    have EF := Lib.hid (show gptr P t n x = .pointer none by unfold gptr; rw [if_neg hx])
    rw [e] at S
    clear e hx
    go_enter Tryz.func34, Tryz.ntmps34
    go_wp2_with (go_at_call 47; refine (S.out _).mono ?_; rintro e w1 ⟨rfl, hb⟩; have HB := Lib.hid hb; clear hb)
    go_ret
    rw [EF.out]
    exact ⟨rfl, HB.out⟩

theorem drawnN' (w : World) (m : Nat) : Below w.heap.size w (w.drewN m) := ⟨rfl, rfl, rfl, Nat.le_refl _, fun _ _ => rfl⟩
theorem empty_at {I : Ix → Prop} {P D : Ix → Nat} {p q1 q2 t n : Nat} {C : Int → Bool} {F B : Int → Int → Bool} {O : Nat → Bool} (w : World) (h : SAt I P D p q1 q2 t n (tv C F B O) w) (hC : Rng C n) (x : Int) (hx : x ≤ 9223372036854775807) :
    Calls Tryz.prog 9 #[.pointer (some ⟨p, 0, none⟩), .int .i64 x] w (Is (.bool (C x)) w) := by
  have H := Lib.hid (Bt.has_any w (.at_ (h.fam.at_ .e h.ie)) x hx)
  rw [show has (tv C F B O .e) x = C x from has_rw hC x] at H
  obtain ⟨x0, x1, x2, x3, x4⟩ := Bk.five h.box
  clear h
  go_enter Tryz.func9, Tryz.ntmps9
  go_wp2_with (go_at_call 29; refine H.out.mono ?_; rintro e w1 ⟨rfl, m, rfl⟩)
  go_ret
  exact ⟨rfl, drawnN' _ _⟩

/-- A new set for terminals. -/
theorem terms_at {I : Ix → Prop} {P D : Ix → Nat} {p q1 q2 t n : Nat} {V : Ix → Nat → Bool} (w : World) (h : SAt I P D p q1 q2 t n V w) :
    Calls Tryz.prog 36 #[.pointer (some ⟨p, 0, none⟩)] w (Bt.Made (t + 1) w) := by
  have hcap : Bt.cap ((t : Int) + 1) = t + 1 := by have := h.tn; have := h.n4; unfold Bt.cap; omega
  have N := Lib.hid (Bt.new_any ((t : Int) + 1) w)
  rw [hcap] at N
  have ht := h.tn
  have h4 := h.n4
  obtain ⟨x0, x1, x2, x3, x4⟩ := Bk.five h.box
  clear h hcap
  go_enter Tryz.func36, Tryz.ntmps36
  go_wp2_with (go_at_call 46; refine N.out.mono ?_; rintro e w2 ⟨p, d, rfl, hM⟩; have M := Lib.hid hM; clear hM)
  go_ret
  exact ⟨p, d, rfl, M.out⟩

end Go.Proofs.YtoipinnfmjaaaaaGreatDoor.Fi

namespace Go.Proofs.YtoipinnfmjaaaaaGreatDoor.Fi
open Go.RowKit Go.Maps
open Go.Proofs.YtoipinnfmjaaaaaGreatDoor.Gr (Gram nonB termB top names nameS checkN termB_iff nonB_iff Is boxed step cell_later bool_of int_of ivs iv int_at)
open Go.Proofs.YtoipinnfmjaaaaaGreatDoor.Bt (SetAt SetV Keeps OtherV Upto has)
open Go.Proofs.YtoipinnfmjaaaaaGreatDoor.Rw (Bk)
set_option linter.unusedVariables false

/-- The numbers of a list are within a machine's reach, and so is the list. -/
structure LOk (L : List Int) (c : Nat) : Prop where
  fit : ∀ x ∈ L, x ≤ 9223372036854775807
  len : L.length ≤ 17592186044416
  cap : L.length ≤ c
theorem LOk.at {L : List Int} {c : Nat} (h : LOk L c) {k : Nat} (hk : k < L.length) : L[k] ≤ 9223372036854775807 := h.fit _ (List.getElem_mem hk)

def HeadEnd (C : Int → Bool) (L : List Int) (a : Option Addr) (c : Nat) (w : World) (e : Ending) (w' : World) : Prop :=
  e = .returned (.tuple #[.slice a (headN C L) c, .bool (allC C L)]) ∧ Below w.heap.size w w'
def HdRel (C : Int → Bool) (L : List Int) (W : World) (i : Value) (w : World) : Prop :=
  ∃ k : Nat, k ≤ L.length ∧ i = .int .i64 k ∧ (∀ j (h : j < L.length), j < k → C L[j] = true) ∧ Below W.heap.size W w

set_option maxRecDepth 100000 in
set_option maxHeartbeats 4000000 in
theorem head_at {I : Ix → Prop} {P D : Ix → Nat} {p q1 q2 t n : Nat} {C : Int → Bool} {F B : Int → Int → Bool} {O : Nat → Bool} (w : World) (h : SAt I P D p q1 q2 t n (tv C F B O) w) (hC : Rng C n) (L : List Int) (a : Option Addr) (c : Nat) (hR : Sep.Reads a (ivs L) w) (hL : LOk L c) :
    Calls Tryz.prog 37 #[.pointer (some ⟨p, 0, none⟩), .slice a L.length c] w (HeadEnd C L a c w) := by
  have EM := Lib.hid (fun x hx w1 (b : Below w.heap.size w w1) => empty_at w1 (h.went b) hC x hx)
  have RR := Lib.hid (fun w1 (b : Below w.heap.size w w1) => Sep.Reads.below hR b (Nat.le_refl _))
  have LO := Lib.hid hL
  have hl := hL.len
  have hcap := hL.cap
  clear h hR hL hC
  go_enter Tryz.func37, Tryz.ntmps37
  go_wp2
  go_loopw [10] (fun i wr => HdRel C L w i wr) (fun i _ => L.length - (intOf i).toNat)
  case atStart => exact ⟨0, Nat.zero_le _, rfl, (fun j _ hj => absurd hj (by omega)), .refl _ _⟩
  case round =>
    obtain ⟨k, hk, rfl, hP, hb⟩ := hrel
    have B := Lib.hid hb
    have PP := Lib.hid hP
    clear hb hP
    by_cases hlt : k < L.length
    · obtain ⟨b, o, rfl, hc⟩ := int_at (RR.out _ B.out) hlt
      have E1 := Lib.hid (EM.out L[k] (LO.out.at hlt) _ B.out)
      cases hz : C L[k] with
      | true =>
        have P2 := Lib.hid (show ∀ j (h : j < L.length), j < k + 1 → C L[j] = true from fun j h hj => by
          by_cases e : j = k
          · subst e
            exact hz
          · exact PP.out j h (by omega))
        rw [hz] at E1
        clear hz
        generalize L[k] = s at *
        go_wp2_with (go_at_call 9; refine E1.out.mono ?_; rintro e w1 ⟨rfl, hb⟩; have B1 := Lib.hid (Gr.step B.out hb); clear hb)
        go_roundw
        case rel => exact ⟨k + 1, by omega, by go_num, P2.out, B1.out⟩
        case measure => simp [intOf]; omega
      | false =>
        obtain ⟨h1, h2⟩ := headN_hit hlt PP.out hz
        have H1 := Lib.hid h1
        have H2 := Lib.hid h2
        rw [hz] at E1
        clear hz h1 h2
        generalize L[k] = s at *
        go_wp2_with (go_at_call 9; refine E1.out.mono ?_; rintro e w1 ⟨rfl, hb⟩; have B1 := Lib.hid (Gr.step B.out hb); clear hb)
        go_ret2
        refine ⟨?_, B1.out⟩
        rw [H1.out, H2.out]
        first | rfl | (congr 1; omega)
    · obtain ⟨h1, h2⟩ := headN_all (C := C) (l := L) fun j hj => PP.out j hj (by omega)
      have H1 := Lib.hid h1
      have H2 := Lib.hid h2
      clear h1 h2
      go_wp2
      go_ret2
      refine ⟨?_, B.out⟩
      rw [H1.out, H2.out]
      rfl

end Go.Proofs.YtoipinnfmjaaaaaGreatDoor.Fi

namespace Go.Proofs.YtoipinnfmjaaaaaGreatDoor.Fi
open Go.RowKit Go.Maps
open Go.Proofs.YtoipinnfmjaaaaaGreatDoor.Gr (Gram nonB termB top names nameS checkN termB_iff nonB_iff Is boxed step cell_later bool_of int_of ivs iv int_at)
open Go.Proofs.YtoipinnfmjaaaaaGreatDoor.Bt (SetAt SetV Keeps OtherV Upto has orr gains)
open Go.Proofs.YtoipinnfmjaaaaaGreatDoor.Rw (Bk)
set_option linter.unusedVariables false

theorem keeps_of {d : Nat} {w w' : World} (h : Below w.heap.size w w') : Keeps d w w' := ⟨h.os, h.tape, h.output, h.size, fun k hk _ => h.block k hk⟩
theorem below_keeps {W0 w w' : World} {d : Nat} (h : Below W0.heap.size W0 w) (hd : W0.heap.size ≤ d) (k : Keeps d w w') : Below W0.heap.size W0 w' := h.trans (k.below hd h.size)

/-- The target has been written, and nothing else. -/
def JoinEnd (p d m : Nat) (V : Nat → Bool) (F : Int → Int → Bool) (X : List Int) (w : World) (e : Ending) (w' : World) : Prop :=
  ∃ b, e = .returned (.bool b) ∧ Gn V F X b ∧ SetAt p d m (jn V F X) w' ∧ Keeps d w w'
def JoRel (I : Ix → Prop) (P D : Ix → Nat) (p q1 q2 t n : Nat) (T : Ix → Nat → Bool) (F : Int → Int → Bool) (k : Ix) (X : List Int) (W : World) (m i : Value) (w : World) : Prop :=
  ∃ (j : Nat) (b : Bool), j ≤ X.length ∧ i = .int .i64 j ∧ m = .bool b ∧ Gn (T k) F (X.take j) b ∧ SAt I P D p q1 q2 t n (upd T k (jn (T k) F (X.take j))) w ∧ Keeps (D k) W w

theorem take_next {X : List Int} {j : Nat} (h : j < X.length) : X.take (j + 1) = X.take j ++ [X[j]] := by rw [List.take_succ_eq_append_getElem h]
theorem rw_none {F : Int → Int → Bool} {n : Nat} (h2 : ∀ x i, F x i = true → 0 ≤ x ∧ x < (n : Int)) {y : Int} (hy : ¬ (0 ≤ y ∧ y < (n : Int))) : rw' (F y) = fun _ => false := by
  funext i
  unfold rw'
  cases e : F y (i : Int) with
  | false => rfl
  | true => exact absurd (h2 _ _ e) hy
/-- The set of a symbol, beside the target. -/
theorem SAt.otherV {I : Ix → Prop} {P D : Ix → Nat} {p q1 q2 t n : Nat} {C : Int → Bool} {F B : Int → Int → Bool} {O V : Nat → Bool} {k : Ix} {w : World} (h : SAt I P D p q1 q2 t n (upd (tv C F B O) k V) w) (hk : I k) (h2 : ∀ x i, F x i = true → 0 ≤ x ∧ x < (n : Int)) (y : Int) (hne : 0 ≤ y → y < (n : Int) → k ≠ .f y.toNat) :
    ∃ m, OtherV (D k) (fptr P n y) m (rw' (F y)) w := by
  unfold fptr
  by_cases hy : 0 ≤ y ∧ y < (n : Int)
  · rw [if_pos hy]
    replace hne := hne hy.1 hy.2
    have := h.fam.other hk (h.if_ y.toNat (by omega)) (fun e => hne e.symm)
    rw [upd_miss _ _ (fun e => hne e.symm)] at this
    refine ⟨t + 1, ?_⟩
    have e : ((y.toNat : Nat) : Int) = y := by omega
    have e2 : tv C F B O (.f y.toNat) = rw' (F y) := by show rw' (F ((y.toNat : Nat) : Int)) = _; rw [e]
    rw [e2] at this
    exact this
  · rw [if_neg hy, rw_none h2 hy]
    exact ⟨0, .nil _⟩
theorem SAt.wrote2 {I : Ix → Prop} {P D : Ix → Nat} {p q1 q2 t n : Nat} {T : Ix → Nat → Bool} {V B : Nat → Bool} {k : Ix} {w w' : World} (h : SAt I P D p q1 q2 t n (upd T k V) w) (hk : I k) (hm : rm t n k = t + 1) (hs : SetAt (P k) (D k) (t + 1) B w') (hK : Keeps (D k) w w') : SAt I P D p q1 q2 t n (upd T k B) w' := by
  have := h.wrote hk (B := B) (by rw [hm]; exact hs) hK
  rwa [upd_upd] at this
theorem SAt.target {I : Ix → Prop} {P D : Ix → Nat} {p q1 q2 t n : Nat} {T : Ix → Nat → Bool} {V : Nat → Bool} {k : Ix} {w : World} (h : SAt I P D p q1 q2 t n (upd T k V) w) (hk : I k) (hm : rm t n k = t + 1) : SetAt (P k) (D k) (t + 1) V w := by
  have := h.fam.at_ k hk
  rw [upd_hit, hm] at this
  exact this

set_option maxRecDepth 100000 in
set_option maxHeartbeats 4000000 in
theorem join_at {I : Ix → Prop} {P D : Ix → Nat} {p q1 q2 t n : Nat} {C : Int → Bool} {F B : Int → Int → Bool} {O : Nat → Bool} (W0 w : World) (h : SAt I P D p q1 q2 t n (tv C F B O) w) (hT : TOk t n C F B) (k : Ix) (hk : I k) (hm : rm t n k = t + 1) (hb0 : Below W0.heap.size W0 w) (hd : W0.heap.size ≤ D k)
    (X : List Int) (a : Option Addr) (c : Nat) (hR : Sep.Reads a (ivs X) W0) (hL : LOk X c) :
    Calls Tryz.prog 38 #[.pointer (some ⟨p, 0, none⟩), .pointer (some ⟨P k, 0, none⟩), .slice a X.length c] w (JoinEnd (P k) (D k) (t + 1) (tv C F B O k) F X w) := by
  have FI := Lib.hid (fun T w1 (b : SAt I P D p q1 q2 t n T w1) x => first_at w1 b x)
  have RR := Lib.hid (fun w1 (b : Below W0.heap.size W0 w1) => Sep.Reads.below hR b (Nat.le_refl _))
  have HK := Lib.hid hk
  have HM := Lib.hid hm
  have HD := Lib.hid hd
  have TO := Lib.hid hT
  have B0 := Lib.hid hb0
  have S0 := Lib.hid (show SAt I P D p q1 q2 t n (upd (tv C F B O) k (jn (tv C F B O k) F (X.take 0))) w by rw [List.take_zero, jn_nil, upd_same]; exact h)
  have G0 := Lib.hid (show Gn (tv C F B O k) F (X.take 0) false from by rw [List.take_zero]; exact gn_nil _ _)
  have LO := Lib.hid hL
  have hl := hL.len
  have hcap := hL.cap
  have SELF := Lib.hid (show ∀ y : Int, 0 ≤ y → k = .f y.toNat → tv C F B O k = rw' (F y) ∧ fptr P n y = fptr P n y from fun y hy e => by
    subst e
    refine ⟨?_, rfl⟩
    show rw' (F ((y.toNat : Nat) : Int)) = _
    rw [show ((y.toNat : Nat) : Int) = y from by omega])
  clear h hR hL hT hk hm hb0 hd
  go_enter Tryz.func38, Tryz.ntmps38
  go_wp2
  go_loopw [7, 12] (fun m i wr => JoRel I P D p q1 q2 t n (tv C F B O) F k X w m i wr) (fun _ i _ => X.length - (intOf i).toNat)
  case atStart => exact ⟨0, false, Nat.zero_le _, rfl, rfl, G0.out, S0.out, .refl _ _⟩
  case round =>
    clear S0 G0
    obtain ⟨j, b, hj, rfl, rfl, hG, hS, hKp⟩ := hrel
    have GG := Lib.hid hG
    have S := Lib.hid hS
    have KP := Lib.hid hKp
    clear hG hS hKp
    by_cases hlt : j < X.length
    · obtain ⟨bb, o, rfl, hc⟩ := int_at (RR.out _ (below_keeps B0.out HD.out KP.out)) hlt
      have TN := Lib.hid (take_next hlt)
      have FC := Lib.hid (FI.out _ _ S.out X[j])
      have hfy := LO.out.at hlt
      by_cases hself : 0 ≤ X[j] ∧ X[j] < (n : Int) ∧ k = .f X[j].toNat
      · obtain ⟨hs0, hs1, hs2⟩ := hself
        have E1 := (SELF.out X[j] hs0 hs2).1
        have EP := Lib.hid (show fptr P n X[j] = .pointer (some ⟨P k, 0, none⟩) by unfold fptr; rw [if_pos ⟨hs0, hs1⟩, hs2])
        have GN := Lib.hid (show Gn (tv C F B O k) F (X.take (j + 1)) b by rw [TN.out]; exact gn_same (fun i hi => by rw [E1]; exact hi) GG.out)
        have SN := Lib.hid (show ∀ w', SAt I P D p q1 q2 t n (upd (tv C F B O) k (jn (tv C F B O k) F (X.take j))) w' → SAt I P D p q1 q2 t n (upd (tv C F B O) k (jn (tv C F B O k) F (X.take (j + 1)))) w' from fun w' h => by
          rw [TN.out, ← jn_self (X.take j) E1]
          exact h)
        have OS := Lib.hid (fun w1 (hS : SAt I P D p q1 q2 t n (upd (tv C F B O) k (jn (tv C F B O k) F (X.take j))) w1) => Bt.or_self w1 (hS.target HK.out HM.out))
        rw [EP.out] at FC
        clear E1 hs2 EP SELF GG
        generalize X[j] = y at *
        go_wp2_with (first
          | (go_at_call 31; refine FC.out.mono ?_; rintro e w1 ⟨rfl, hb⟩; have S1 := Lib.hid (S.out.went hb); have K1 := Lib.hid (KP.out.trans (keeps_of hb)); clear hb)
          | (go_at_call 49; refine (OS.out _ S1.out).mono ?_; rintro e w2 ⟨rfl, hs, hk⟩; have S2 := Lib.hid (SN.out _ (S1.out.wrote2 HK.out HM.out hs hk)); have K2 := Lib.hid (K1.out.trans hk); clear hs hk))
        go_roundw
        case rel => exact ⟨j + 1, b, by omega, by go_num, rfl, GN.out, S2.out, K2.out⟩
        case measure => simp [intOf]; omega
      · have OC := Lib.hid (show ∀ w1, SAt I P D p q1 q2 t n (upd (tv C F B O) k (jn (tv C F B O k) F (X.take j))) w1 → Calls Tryz.prog 49 #[.pointer (some ⟨P k, 0, none⟩), fptr P n X[j]] w1 (Bt.Wrote (gains (jn (tv C F B O k) F (X.take j)) (t + 1) (rw' (F X[j]))) (P k) (D k) (t + 1) (jn (tv C F B O k) F (X.take (j + 1))) w1) from fun w1 hS => by
          obtain ⟨m, ho⟩ := hS.otherV HK.out TO.out.f2 X[j] (fun h0 h1 e => hself ⟨h0, h1, e⟩)
          have := Bt.or_any w1 (hS.target HK.out HM.out) ho
          rwa [jn_step (X.take j) (TO.out.f1 X[j]), ← TN.out] at this)
        have GN := Lib.hid (show Gn (tv C F B O k) F (X.take (j + 1)) (b || gains (jn (tv C F B O k) F (X.take j)) (t + 1) (rw' (F X[j]))) by rw [TN.out]; exact gn_step (TO.out.f1 X[j]) GG.out)
        clear hself SELF GG TN
        generalize gains (jn (tv C F B O k) F (X.take j)) (t + 1) (rw' (F X[j])) = g at *
        generalize fptr P n X[j] = u at *
        generalize X[j] = y at *
        cases g with
        | false =>
          rw [Bool.or_false] at GN
          go_wp2_with (first
            | (go_at_call 31; refine FC.out.mono ?_; rintro e w1 ⟨rfl, hb⟩; have S1 := Lib.hid (S.out.went hb); have K1 := Lib.hid (KP.out.trans (keeps_of hb)); clear hb)
            | (go_at_call 49; refine (OC.out _ S1.out).mono ?_; rintro e w2 ⟨rfl, hs, hk⟩; have S2 := Lib.hid (S1.out.wrote2 HK.out HM.out hs hk); have K2 := Lib.hid (K1.out.trans hk); clear hs hk))
          go_roundw
          case rel => exact ⟨j + 1, b, by omega, by go_num, rfl, GN.out, S2.out, K2.out⟩
          case measure => simp [intOf]; omega
        | true =>
          rw [Bool.or_true] at GN
          go_wp2_with (first
            | (go_at_call 31; refine FC.out.mono ?_; rintro e w1 ⟨rfl, hb⟩; have S1 := Lib.hid (S.out.went hb); have K1 := Lib.hid (KP.out.trans (keeps_of hb)); clear hb)
            | (go_at_call 49; refine (OC.out _ S1.out).mono ?_; rintro e w2 ⟨rfl, hs, hk⟩; have S2 := Lib.hid (S1.out.wrote2 HK.out HM.out hs hk); have K2 := Lib.hid (K1.out.trans hk); clear hs hk))
          go_roundw
          case rel => exact ⟨j + 1, true, by omega, by go_num, rfl, GN.out, S2.out, K2.out⟩
          case measure => simp [intOf]; omega
    · have E : X.take j = X := List.take_of_length_le (by omega)
      have T1 := Lib.hid (S.out.target HK.out HM.out)
      rw [E] at T1 GG
      clear E
      go_wp2
      go_ret
      exact ⟨b, rfl, GG.out, T1.out, KP.out⟩

/-- Nothing is joined to nil. -/
theorem join_none {I : Ix → Prop} {P D : Ix → Nat} {p q1 q2 t n : Nat} {V : Ix → Nat → Bool} (w : World) (h : SAt I P D p q1 q2 t n V w) (X : List Int) (a : Option Addr) (c : Nat) (hR : Sep.Reads a (ivs X) w) (hL : LOk X c) :
    Calls Tryz.prog 38 #[.pointer (some ⟨p, 0, none⟩), .pointer none, .slice a X.length c] w (Is (.bool false) w) := by
  have FI := Lib.hid (fun w1 (b : Below w.heap.size w w1) x => first_at w1 (h.went b) x)
  have RR := Lib.hid (fun w1 (b : Below w.heap.size w w1) => Sep.Reads.below hR b (Nat.le_refl _))
  have OR := Lib.hid (fun u w1 => Bt.or_nil (u := u) w1)
  have LO := Lib.hid hL
  have hl := hL.len
  have hcap := hL.cap
  clear h hR hL
  go_enter Tryz.func38, Tryz.ntmps38
  go_wp2
  go_loopw [7, 12] (fun m i wr => ∃ j : Nat, j ≤ X.length ∧ i = .int .i64 j ∧ m = .bool false ∧ Below w.heap.size w wr) (fun _ i _ => X.length - (intOf i).toNat)
  case atStart => exact ⟨0, Nat.zero_le _, rfl, rfl, .refl _ _⟩
  case round =>
    obtain ⟨j, hj, rfl, rfl, hb⟩ := hrel
    have B := Lib.hid hb
    clear hb
    by_cases hlt : j < X.length
    · obtain ⟨bb, o, rfl, hc⟩ := int_at (RR.out _ B.out) hlt
      have FC := Lib.hid (FI.out _ B.out X[j])
      generalize fptr P n X[j] = u at *
      generalize X[j] = y at *
      go_wp2_with (first
        | (go_at_call 31; refine FC.out.mono ?_; rintro e w1 ⟨rfl, hb⟩; have B1 := Lib.hid (Gr.step B.out hb); clear hb)
        | (go_at_call 49; refine (OR.out _ _).mono ?_; rintro e w2 ⟨rfl, rfl⟩))
      go_roundw
      case rel => exact ⟨j + 1, by omega, by go_num, rfl, B1.out⟩
      case measure => simp [intOf]; omega
    · go_wp2
      go_ret
      exact ⟨rfl, B.out⟩

end Go.Proofs.YtoipinnfmjaaaaaGreatDoor.Fi

namespace Go.Proofs.YtoipinnfmjaaaaaGreatDoor.Fi
open Go.RowKit Go.Maps
open Go.Proofs.YtoipinnfmjaaaaaGreatDoor.Gr (Gram nonB termB top names nameS checkN termB_iff nonB_iff Is boxed step cell_later bool_of int_of ivs iv int_at drawn)
open Go.Proofs.YtoipinnfmjaaaaaGreatDoor.Bt (SetAt SetV Keeps OtherV Upto has orr gains putR putI)
open Go.Proofs.YtoipinnfmjaaaaaGreatDoor.Rw (Bk)
set_option linter.unusedVariables false

/-- The blocks that hold the sets' numbers. -/
def Ds (I : Ix → Prop) (D : Ix → Nat) : Nat → Prop := fun b => ∃ k, I k ∧ b = D k
theorem fr_keeps {I : Ix → Prop} {D : Ix → Nat} {k : Ix} (hk : I k) {w w' : World} (h : Keeps (D k) w w') : Sep.Fr (Ds I D) w w' :=
  ⟨h.os, h.tape, h.output, h.size, fun i hi hS => h.block i hi fun e => hS ⟨k, hk, e⟩⟩
theorem below_fr {I : Ix → Prop} {D : Ix → Nat} {W0 w w' : World} (hb : Below W0.heap.size W0 w) (hD : ∀ k, I k → W0.heap.size ≤ D k) (h : Sep.Fr (Ds I D) w w') : Below W0.heap.size W0 w' :=
  hb.trans (h.below (fun b ⟨k, hk, e⟩ => e ▸ hD k hk) hb.size)

theorem rng_addC {C : Int → Bool} {n : Nat} (h : Rng C n) {r : Int × List Int} (h0 : 0 ≤ r.1) (h1 : r.1 < (n : Int)) : Rng (addC C r) n := fun x k => by
  unfold addC at k
  rw [Bool.or_eq_true, Bool.and_eq_true, decide_eq_true_iff] at k
  rcases k with k | ⟨e, _⟩
  · exact h x k
  · subst e
    exact ⟨h0, h1⟩
theorem put_addC {C : Int → Bool} {n s : Nat} {R : List Int} (hs : s < n) (ha : allC C R = true) : putI (rw' C) n (s : Int) = rw' (addC C ((s : Int), R)) ∧ putR (rw' C) n (s : Int) = !C (s : Int) := by
  constructor
  · unfold putI
    rw [if_pos (by omega)]
    funext i
    unfold Bt.put rw' addC
    dsimp only
    rw [ha, Bool.and_true]
    congr 1
    rw [decide_eq_decide]
    omega
  · unfold putR
    simp [rw', hs]
theorem lineB_rng {C : Int → Bool} {F : Int → Int → Bool} {m : Nat} (h : ∀ x, Rng (F x) m) (l : List Int) : Rng (lineB C F l) m := fun t k => by
  obtain ⟨_, y, _, _, _, h3⟩ := lineB_iff.1 k
  exact h y t h3
theorem jn_addF {C : Int → Bool} {F : Int → Int → Bool} {s : Nat} {R : List Int} : jn (rw' (F (s : Int))) F (R.take (headN C R)) = rw' (addF C F ((s : Int), R) (s : Int)) := by
  funext i
  unfold jn rw' addF
  dsimp only
  rw [head_line, decide_eq_true rfl, Bool.true_and]
theorem gn_line {C : Int → Bool} {F : Int → Int → Bool} {V : Nat → Bool} {R : List Int} {b : Bool} (h : Gn V F (R.take (headN C R)) b) : b = true ↔ ∃ i : Nat, lineB C F R (i : Int) = true ∧ V i = false := by
  unfold Gn at h
  rw [h]
  constructor
  · rintro ⟨i, ⟨y, hy, h1⟩, h2⟩
    refine ⟨i, ?_, h2⟩
    rw [← head_line, List.any_eq_true]
    exact ⟨y, hy, h1⟩
  · rintro ⟨i, h1, h2⟩
    rw [← head_line, List.any_eq_true] at h1
    obtain ⟨y, hy, h3⟩ := h1
    exact ⟨i, ⟨y, hy, h3⟩, h2⟩
theorem ex_nat {Q : Int → Prop} {m : Nat} (h : ∀ t, Q t → 0 ≤ t) : (∃ t, Q t) ↔ ∃ i : Nat, Q (i : Int) :=
  ⟨fun ⟨t, ht⟩ => ⟨t.toNat, by rw [show ((t.toNat : Nat) : Int) = t from by have := h t ht; omega]; exact ht⟩, fun ⟨i, hi⟩ => ⟨i, hi⟩⟩
theorem LOk.take {L : List Int} {c : Nat} (h : LOk L c) (m : Nat) : LOk (L.take m) c :=
  ⟨fun x hx => h.fit x (List.mem_of_mem_take hx), Nat.le_trans (List.length_take_le' _ _) h.len, Nat.le_trans (List.length_take_le' _ _) h.cap⟩
theorem reads_take {L : List Int} {a : Option Addr} {w : World} (h : Sep.Reads a (ivs L) w) (m : Nat) : Sep.Reads a (ivs (L.take m)) w := by
  have e : ivs (L.take m) = (ivs L).take m := by unfold ivs; rw [List.map_take]
  rw [e]
  intro i hi
  have hi2 : i < (ivs L).length := by
    rw [List.length_take] at hi
    omega
  obtain ⟨b, o, e, hc⟩ := h i hi2
  refine ⟨b, o, e, ?_⟩
  rw [hc, List.getElem_take]
theorem take_len {C : Int → Bool} (L : List Int) : (L.take (headN C L)).length = headN C L := by
  rw [List.length_take]
  have := headN_le C L
  omega

/-- A rule has been tried on what can be empty. -/
def AddE (I : Ix → Prop) (P D : Ix → Nat) (p q1 q2 t n : Nat) (C : Int → Bool) (F B : Int → Int → Bool) (O : Nat → Bool) (r : Int × List Int) (w : World) (e : Ending) (w' : World) : Prop :=
  ∃ b, e = .returned (.bool b) ∧ (b = true ↔ allC C r.2 = true ∧ C r.1 = false) ∧ SAt I P D p q1 q2 t n (tv (addC C r) F B O) w' ∧ Sep.Fr (Ds I D) w w'
/-- A rule has been tried on what symbols begin with. -/
def AddF (I : Ix → Prop) (P D : Ix → Nat) (p q1 q2 t n : Nat) (C : Int → Bool) (F B : Int → Int → Bool) (O : Nat → Bool) (r : Int × List Int) (w : World) (e : Ending) (w' : World) : Prop :=
  ∃ b, e = .returned (.bool b) ∧ (b = true ↔ ∃ t, lineB C F r.2 t = true ∧ F r.1 t = false) ∧ SAt I P D p q1 q2 t n (tv C (addF C F r) B O) w' ∧ Sep.Fr (Ds I D) w w'

set_option maxRecDepth 100000 in
set_option maxHeartbeats 8000000 in
theorem addE_at {I : Ix → Prop} {P D : Ix → Nat} {p q1 q2 t n : Nat} {C : Int → Bool} {F B : Int → Int → Bool} {O : Nat → Bool} (w : World) (h : SAt I P D p q1 q2 t n (tv C F B O) w) (hT : TOk t n C F B)
    (s : Nat) (hs : s < n) (R : List Int) (a : Option Addr) (c : Nat) (hR : Sep.Reads a (ivs R) w) (hL : LOk R c) :
    Calls Tryz.prog 21 #[.pointer (some ⟨p, 0, none⟩), .agg #[.int .i64 (s : Int), .slice a R.length c]] w (AddE I P D p q1 q2 t n C F B O ((s : Int), R) w) := by
  have bx := boxed w (.cells #[.int .i64 (s : Int), .slice a R.length c] 40)
  have BX := Lib.hid bx
  have Q0 := Lib.hid (Bk.new w #[.int .i64 (s : Int), .slice a R.length c] 40 _ rfl)
  have S0 := Lib.hid (h.went bx)
  have HD := Lib.hid (head_at _ S0.out hT.c R a c (Sep.Reads.below hR bx (Nat.le_refl _)) hL)
  have hn := h.n4
  have HDp := Lib.hid (h.off .e h.ie)
  have HIE := Lib.hid h.ie
  have hdl : D .e < w.heap.size := (h.fam.at_ .e h.ie).ind
  have hdp := (h.off .e h.ie).1
  clear h hR hL bx
  cases ha : allC C R with
  | false =>
    have E := Lib.hid (show addC C ((s : Int), R) = C from addC_same fun k => by rw [show allC C ((s : Int), R).2 = false from ha] at k; cases k)
    have EB := Lib.hid (show ((false = true) ↔ allC C ((s : Int), R).2 = true ∧ C ((s : Int), R).1 = false) from ⟨(fun k => by cases k), (fun k => by rw [show allC C ((s : Int), R).2 = false from ha] at k; cases k.1)⟩)
    unfold HeadEnd at HD
    rw [ha] at HD
    clear ha hT
    go_enter Tryz.func21, Tryz.ntmps21
    go_wp2_with (go_at_call 37; refine HD.out.mono ?_; rintro e w1 ⟨rfl, hb⟩; have B1 := Lib.hid (Gr.step BX.out hb); have S1 := Lib.hid (S0.out.went hb); clear hb)
    go_quiet (fail)
    go_wp2
    go_ret
    refine ⟨false, rfl, EB.out, by rw [E.out]; exact S1.out.went (drawnN' _ _), Sep.Fr.of_below (Gr.step B1.out (drawnN' _ _))⟩
  | true =>
    obtain ⟨p1, p2⟩ := put_addC hs ha
    have E1 := Lib.hid p1
    have E2 := Lib.hid p2
    have EB := Lib.hid (show ((!C (s : Int)) = true ↔ allC C ((s : Int), R).2 = true ∧ C ((s : Int), R).1 = false) by simp [ha])
    unfold HeadEnd at HD
    rw [ha] at HD
    have PU := Lib.hid (fun w1 (k : SAt I P D p q1 q2 t n (tv C F B O) w1) => Bt.put_any w1 (k.fam.at_ .e k.ie) (s : Int) (by omega))
    clear ha hT p1 p2
    go_enter Tryz.func21, Tryz.ntmps21
    go_wp2_with (go_at_call 37; refine HD.out.mono ?_; rintro e w1 ⟨rfl, hb⟩; have B1 := Lib.hid (Gr.step BX.out hb); have S1 := Lib.hid (S0.out.went hb); have Q1 := Lib.hid (Q0.out.went hb); clear hb)
    obtain ⟨y0, y1, yf⟩ := Q1.out.two
    obtain ⟨x0, x1, x2, x3, x4⟩ := Bk.five S1.out.box
    have HQ := Lib.hid (show ∀ w', Sep.Fr (fun b => b = D .e) w1 w' → w'.cell? ⟨w.heap.size, 0, none⟩ = some (.int .i64 (s : Int)) ∧ w'.cell? ⟨p, 2, none⟩ = some (.pointer (some ⟨P .e, 0, none⟩)) ∧ Sep.Fr (fun b => b = D .e) w1 w' from
      fun w' hF => ⟨hF.cell y0 (by simp; omega), hF.cell x2 (by simp; omega), hF⟩)
    have hF1 : Sep.Fr (fun b => b = D .e) w1 w1.drew := (Sep.Fr.refl _ _).drew
    clear y1 yf x0 x1 x3 x4
    go_region_held3 (fun w' => w'.cell? ⟨w.heap.size, 0, none⟩ = some (.int .i64 (s : Int)) ∧ w'.cell? ⟨p, 2, none⟩ = some (.pointer (some ⟨P .e, 0, none⟩)) ∧ Sep.Fr (fun b => b = D .e) w1 w')
      (exact HQ.out _ (by assumption))
      (first
        | (go_at_call 48; refine (PU.out _ (S1.out.went (drawn _))).mono ?_; rintro e w2 ⟨rfl, hs2, hk2⟩; have S2 := Lib.hid ((S1.out.went (drawn _)).wrote HIE.out hs2 hk2); have K2 := Lib.hid hk2; have hF2 : Sep.Fr (fun b => b = D .e) w1 w2 := hF1.trans ⟨hk2.os, hk2.tape, hk2.output, hk2.size, fun i hi hb => hk2.block i hi hb⟩ (fun _ h => .inl h); clear hs2 hk2)
        | fail)
    go_wp2
    go_ret
    refine ⟨_, rfl, ?_, ?_, (Sep.Fr.of_below (Gr.step B1.out (drawn _))).trans (fr_keeps HIE.out K2.out) fun _ h => .inl h⟩
    · rw [show putR (tv C F B O .e) (rm t n .e) (s : Int) = !C (s : Int) from E2.out]
      exact EB.out
    · have := S2.out
      rwa [tv_e (D := addC C ((s : Int), R)) (show putI (tv C F B O .e) (rm t n .e) (s : Int) = rw' (addC C ((s : Int), R)) from E1.out)] at this

set_option maxRecDepth 100000 in
set_option maxHeartbeats 8000000 in
theorem addF_at {I : Ix → Prop} {P D : Ix → Nat} {p q1 q2 t n : Nat} {C : Int → Bool} {F B : Int → Int → Bool} {O : Nat → Bool} (W0 w : World) (h : SAt I P D p q1 q2 t n (tv C F B O) w) (hT : TOk t n C F B) (hb0 : Below W0.heap.size W0 w) (hD : ∀ k, I k → W0.heap.size ≤ D k)
    (s : Nat) (hs : s < n) (R : List Int) (a : Option Addr) (c : Nat) (hR : Sep.Reads a (ivs R) W0) (hL : LOk R c) :
    Calls Tryz.prog 22 #[.pointer (some ⟨p, 0, none⟩), .agg #[.int .i64 (s : Int), .slice a R.length c]] w (AddF I P D p q1 q2 t n C F B O ((s : Int), R) w) := by
  have bx := boxed w (.cells #[.int .i64 (s : Int), .slice a R.length c] 40)
  have BX := Lib.hid bx
  have Q0 := Lib.hid (Bk.new w #[.int .i64 (s : Int), .slice a R.length c] 40 _ rfl)
  have S0 := Lib.hid (h.went bx)
  have HD := Lib.hid (head_at _ S0.out hT.c R a c (Sep.Reads.below hR (Gr.step hb0 bx) (Nat.le_refl _)) hL)
  have hn := h.n4
  have FI := Lib.hid (fun w1 (b : SAt I P D p q1 q2 t n (tv C F B O) w1) => first_at w1 b (s : Int))
  have EP := Lib.hid (show fptr P n (s : Int) = .pointer (some ⟨P (.f s), 0, none⟩) by unfold fptr; rw [if_pos (by omega)]; rfl)
  have JO := Lib.hid (fun w1 (k : SAt I P D p q1 q2 t n (tv C F B O) w1) (hb : Below W0.heap.size W0 w1) => join_at W0 w1 k hT (.f s) (k.if_ s hs) rfl hb (hD _ (k.if_ s hs)) (R.take (headN C R)) a c (reads_take hR _) (hL.take _))
  rw [take_len] at JO
  rw [EP.out] at FI
  have HIF := Lib.hid (h.if_ s hs)
  have HB0 := Lib.hid hb0
  have RG := Lib.hid (lineB_rng (C := C) hT.f1 R)
  clear h hR hL bx hT hb0 hD EP
  unfold HeadEnd at HD
  go_enter Tryz.func22, Tryz.ntmps22
  go_wp2_with (first
    | (go_at_call 37; refine HD.out.mono ?_; rintro e w1 ⟨rfl, hb⟩; have B1 := Lib.hid (Gr.step BX.out hb); have S1 := Lib.hid (S0.out.went hb); have Q1 := Lib.hid (Q0.out.went hb); clear hb; obtain ⟨y0, y1, yf⟩ := Q1.out.two)
    | (go_at_call 31; refine (FI.out _ S1.out).mono ?_; rintro e w2 ⟨rfl, hb⟩; have B2 := Lib.hid (Gr.step B1.out hb); have S2 := Lib.hid (S1.out.went hb); clear hb)
    | (go_at_call 38; refine (JO.out _ S2.out (Gr.step HB0.out B2.out)).mono ?_; rintro e w3 ⟨b, rfl, hg, hs3, hk3⟩; have G3 := Lib.hid hg; have S3 := Lib.hid (S2.out.wrote HIF.out hs3 hk3); have K3 := Lib.hid hk3; clear hg hs3 hk3))
  go_ret
  refine ⟨b, rfl, ?_, ?_, (Sep.Fr.of_below B2.out).trans (fr_keeps HIF.out K3.out) fun _ h => .inl h⟩
  · rw [gn_line G3.out, ex_nat (m := 0) (fun t ht => (RG.out t ht.1).1)]
    exact Iff.rfl
  · have := S3.out
    rwa [tv_f (H := addF C F ((s : Int), R)) (show jn (tv C F B O (.f s)) F (R.take (headN C R)) = rw' (addF C F ((s : Int), R) (s : Int)) from jn_addF) (fun x hx => by funext t; unfold addF; dsimp only; rw [decide_eq_false hx]; simp)] at this

end Go.Proofs.YtoipinnfmjaaaaaGreatDoor.Fi
