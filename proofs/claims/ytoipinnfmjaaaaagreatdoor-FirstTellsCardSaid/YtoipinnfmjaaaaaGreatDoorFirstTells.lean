/-
  The walk of the statement on any grammar: of each symbol whether it can be empty, what it begins with, what stands behind it; of any symbols. Condition: the library's table in math/bits holds its numbers; the list is within a machine's reach.
-/
import Derived.Test.YtoipinnfmjaaaaaGreatDoorFirstRTell
import Derived.Test.YtoipinnfmjaaaaaGreatDoorFirstAwake
import Derived.Test.YtoipinnfmjaaaaaGreatDoorLeastInts
namespace Go.Proofs.YtoipinnfmjaaaaaGreatDoor.Fr
open Go.RowKit Go.Maps
open Go.Proofs.YtoipinnfmjaaaaaGreatDoor.Gr
open Go.Proofs.YtoipinnfmjaaaaaGreatDoor.Fi
open Go.Proofs.YtoipinnfmjaaaaaGreatDoor.Bt (Keeps Tab)
open Go.Proofs.YtoipinnfmjaaaaaGreatDoor.Rw (Bk row_shape)
set_option linter.unusedVariables false

theorem lst_le' (P : Int → Bool) {n : Nat} (h : n ≤ 100000) : (lst P n).length ≤ 100000 := Nat.le_trans (lst_len P n) h
theorem both_nil {nl : Bool} {I : Ix → Prop} {P D : Ix → Nat} {v1 v2 : Value} {t n : Nat} {h : Sh} {G : Gram} {C : Int → Bool} {F B : Int → Int → Bool} {O : Nat → Bool} {w w' : World} (h1 : VS nl I P D v1 t n C F B O w) (h2 : WS nl v2 h G C F B w') :
    (v1 = .pointer none ∧ v2 = .pointer none) ∨ ∃ p1 p2, v1 = .pointer (some ⟨p1, 0, none⟩) ∧ v2 = .pointer (some ⟨p2, 0, none⟩) := by
  rcases h1 with ⟨a1, b1, _⟩ | ⟨a1, p, q1, q2, b1, _⟩
  · rcases h2 with ⟨a2, b2, _⟩ | ⟨a2, _⟩
    · exact .inl ⟨b1, b2⟩
    · rw [a1] at a2
      cases a2
  · rcases h2 with ⟨a2, _⟩ | ⟨a2, D', p2, _, _, _, _, b2, _⟩
    · rw [a1] at a2
      cases a2
    · exact .inr ⟨p, p2, b1, b2⟩
theorem ints_same (X : List Int) (a b : Option Addr) (c d : Nat) (w : World) (hX : Sep.Reads a (ivs X) w) (hY : Sep.Reads b (ivs X) w) (hm : X.length ≤ 100000) :
    Calls Tryz.prog 11 #[.slice a X.length c, .slice b X.length d] w (Is (.bool true) w) := by
  have := Le.ints_any X X a b c d w hX hY hm hm
  rwa [decide_eq_true rfl] at this
def TRel (W W5 : World) (h : Sh) (G : Gram) (i : Value) (w : World) : Prop :=
  ∃ s : Int, -1 ≤ s ∧ s ≤ (top G : Int) + 2 ∧ i = .int .i64 s ∧ Bx W h G w ∧ Below W5.heap.size W5 w

set_option maxHeartbeats 16000000 in
set_option maxRecDepth 100000 in
theorem tells_law (h : Sh) (G : Gram) (l : List Int) (a : Option Addr) (c : Nat) (w : World) (k : GAt h G w) (hR : Sep.Reads a (ivs l) w) (hL : LOk l c) (htab : Tab w) :
    Calls Tryz.prog 3 #[gv h G, .slice a l.length c] w (Is (.bool true) w) := by
  have X := Lib.hid (Bx.start h G w 25)
  have MU := Lib.hid (fun w1 (b : Below w.heap.size w w1) => much_any h G w1 (k.went b))
  have O1 := Lib.hid (fun w1 (b : Below w.heap.size w w1) => Fi.of_any h G w1 (k.went b))
  have O2 := Lib.hid (fun w1 (b : Below w.heap.size w w1) => rof_any h G w1 (k.went b))
  have TO := Lib.hid (fun w1 (b : Below w.heap.size w w1) => rtop_any h G w1 (k.went b))
  have RR := Lib.hid (fun w1 (b : Below w.heap.size w w1) => Sep.Reads.below hR b (Nat.le_refl _))
  have TB := Lib.hid (fun w1 (b : Below w.heap.size w w1) => htab.below b htab.pos)
  have AW := Lib.hid (fun w1 (b : Below w.heap.size w w1) => awake_any w1 (TB.out w1 b))
  have KG := Lib.hid k
  have LO := Lib.hid hL
  have hl := hL.len
  clear k hR htab hL
  obtain ⟨x0, x1, x2, x3⟩ := X.out.box
  unfold gv
  go_enter Tryz.func3, Tryz.ntmps3
  go_wp2_with fail
  refine (MU.out _ X.out.below).mono ?_
  rintro e w1 ⟨n, rfl, hn, hb⟩
  have X1 := Lib.hid (X.out.went hb)
  clear hb MU x0 x1 x2 x3 X
  by_cases hn9 : 200 < n
  · clear hn
    go_wp2_with (go_at_call 5; refine (AW.out _ X1.out.below).mono ?_; rintro e w2 ⟨rfl, hb⟩; have HB := Lib.hid (Gr.step X1.out.below hb); clear hb)
    go_ret
    exact ⟨rfl, HB.out⟩
  have htop : top G ≤ 200 := by unfold top; omega
  have htm : G.terms.length ≤ 200 := by omega
  clear hn
  by_cases hl5 : 50 < l.length
  · have d5 : decide ((50 : Int) < (l.length : Int)) = true := decide_eq_true (by omega)
    clear hl5
    go_wp2_with (go_at_call 5; refine (AW.out _ X1.out.below).mono ?_; rintro e w2 ⟨rfl, hb⟩; have HB := Lib.hid (Gr.step X1.out.below hb); clear hb)
    go_ret
    exact ⟨rfl, HB.out⟩
  have d5 : decide ((50 : Int) < (l.length : Int)) = false := decide_eq_false (by omega)
  clear hl5
  unfold OfEnd at O1
  unfold ROfEnd at O2
  generalize nlB G = nl at *
  generalize ansC G = C at *
  generalize ansF G = F at *
  generalize ansB G = BB at *
  have HQ := Lib.hid (show ∀ w', Below w1.heap.size w1 w' → w'.cell? ⟨w.heap.size, 0, none⟩ = some (.slice h.a1 G.terms.length h.c1) ∧ w'.cell? ⟨w.heap.size, 1, none⟩ = some (.slice h.a2 G.nons.length h.c2) ∧ w'.cell? ⟨w.heap.size, 2, none⟩ = some (.slice h.a3 G.rules.length h.c3) ∧ w'.cell? ⟨w.heap.size, 3, none⟩ = some (.int .i64 G.start) ∧ Below w1.heap.size w1 w' from fun w' hb => by
    obtain ⟨x0, x1, x2, x3⟩ := (X1.out.went hb).box
    exact ⟨x0, x1, x2, x3, hb⟩)
  have hbd := drawn w1
  go_wp2
  go_region_held3 (fun w' => w'.cell? ⟨w.heap.size, 0, none⟩ = some (.slice h.a1 G.terms.length h.c1) ∧ w'.cell? ⟨w.heap.size, 1, none⟩ = some (.slice h.a2 G.nons.length h.c2) ∧ w'.cell? ⟨w.heap.size, 2, none⟩ = some (.slice h.a3 G.rules.length h.c3) ∧ w'.cell? ⟨w.heap.size, 3, none⟩ = some (.int .i64 G.start) ∧ Below w1.heap.size w1 w')
    (exact HQ.out _ (by assumption))
    (first
      | (go_at_call 6; refine (O1.out _ (Gr.step X1.out.below hbd)).mono ?_; rintro e w2 ⟨v1, P, D, rfl, hv1, hok, hb⟩; have l1 : Below w1.heap.size w1 w2 := Gr.step hbd hb; clear hb)
      | (go_at_call 7; refine (O2.out w2 (Gr.step X1.out.below l1)).mono ?_; rintro e w3 ⟨v2, rfl, hv2, hb⟩; have l2 : Below w1.heap.size w1 w3 := Gr.step l1 hb; have hv3 := hv1.went hb; clear hb hv1)
      | fail)
  have X3 := Lib.hid (X1.out.went l2)
  have TBW := Lib.hid (fun w4 (b : Below w3.heap.size w3 w4) => TB.out w4 (Gr.step X3.out.below b))
  have EM := Lib.hid (fun x w4 (b : Below w3.heap.size w3 w4) hx => empty_any w4 (hv3.went b) hok x hx)
  have RE := Lib.hid (fun x w4 (b : Below w3.heap.size w3 w4) => rempty_any w4 (hv2.went b) hok x)
  have FI := Lib.hid (fun x w4 (b : Below w3.heap.size w3 w4) => first_any w4 (hv3.went b) hok (TBW.out w4 b) (by omega) x)
  have RF := Lib.hid (fun x w4 (b : Below w3.heap.size w3 w4) => rfirst_any w4 (hv2.went b) hok x)
  have FO := Lib.hid (fun x w4 (b : Below w3.heap.size w3 w4) => follow_any w4 (hv3.went b) hok (TBW.out w4 b) (by omega) x)
  have RO := Lib.hid (fun x w4 (b : Below w3.heap.size w3 w4) => rfollow_any w w4 KG.out (Gr.step X3.out.below b) (hv2.went b) hok x)
  have LN := Lib.hid (fun w4 (b : Below w3.heap.size w3 w4) => Fi.line_any w4 (hv3.went b) hok (TBW.out w4 b) (by omega) l a c (RR.out _ (Gr.step X3.out.below b)) LO.out)
  have RN := Lib.hid (fun w4 (b : Below w3.heap.size w3 w4) => rline_any w4 (hv2.went b) hok l a c (RR.out _ (Gr.step X3.out.below b)) LO.out)
  have IS := Lib.hid (fun (P : Int → Bool) a b c d w4 hX hY => ints_same (lst P (G.terms.length + 1)) a b c d w4 hX hY (lst_le' _ (by omega)))
  have PT := Lib.hid (both_nil hv3 hv2)
  clear hv2 hv3 hbd l1 l2 HQ O1 O2 X1 d5 RR hok
  generalize lineB C F l = LB at *
  generalize (!nl && allC C l) = al at *
  rcases PT.out with ⟨rfl, rfl⟩ | ⟨p1, p2, rfl, rfl⟩
  all_goals
    clear PT
    go_wp2
    go_loopw [7] (fun i wr => TRel w w3 h G i wr) (fun i _ => ((top G : Int) + 2 - intOf i).toNat)
    case atStart => exact ⟨-1, by omega, by omega, rfl, X3.out, .refl _ _⟩
    case round =>
      clear X3
      obtain ⟨s, hs1, hs2, rfl, hX, hB⟩ := hrel
      have X := Lib.hid hX
      have B := Lib.hid hB
      clear hX hB
      obtain ⟨x0, x1, x2, x3⟩ := X.out.box
      by_cases hlt : s ≤ (top G : Int) + 1
      · have EC := Lib.hid (fun w4 b => EM.out s w4 b (by omega))
        have REC := Lib.hid (fun w4 b => RE.out s w4 b)
        have FC := Lib.hid (fun w4 b => FI.out s w4 b)
        have RFC := Lib.hid (fun w4 b => RF.out s w4 b)
        have FOC := Lib.hid (fun w4 b => FO.out s w4 b)
        have ROC := Lib.hid (fun w4 b => RO.out s w4 b)
        have I1 := Lib.hid (fun a b c d w4 hX hY => IS.out (F s) a b c d w4 hX hY)
        have I2 := Lib.hid (fun a b c d w4 hX hY => IS.out (BB s) a b c d w4 hX hY)
        clear EM RE FI RF FO RO IS
        generalize lst (F s) (G.terms.length + 1) = fl at *
        generalize lst (BB s) (G.terms.length + 1) = bl at *
        generalize C s = cb at *
        go_wp2_with fail
        refine (TO.out _ X.out.below).mono ?_
        rintro e w4 ⟨rfl, hb⟩
        have X4 := Lib.hid (X.out.went hb)
        have B4 := Lib.hid (Gr.step B.out hb)
        clear hb x0 x1 x2 x3 X B
        go_wp2_with fail
        refine (EC.out _ B4.out).mono ?_
        rintro e w5 ⟨rfl, hb⟩
        have X5 := Lib.hid (X4.out.went hb)
        have B5 := Lib.hid (Gr.step B4.out hb)
        clear hb X4 B4 EC
        go_wp2_with fail
        refine (REC.out _ B5.out).mono ?_
        rintro e w6 ⟨rfl, hb⟩
        have X6 := Lib.hid (X5.out.went hb)
        have B6 := Lib.hid (Gr.step B5.out hb)
        clear hb X5 B5 REC
        go_wp2_with fail
        refine (FC.out _ B6.out).mono ?_
        rintro e w7 ⟨fa, fc, rfl, hR7, _, hb⟩
        have X7 := Lib.hid (X6.out.went hb)
        have B7 := Lib.hid (Gr.step B6.out hb)
        have R7 := Lib.hid hR7
        clear hb X6 B6 FC hR7
        go_wp2_with fail
        refine (RFC.out _ B7.out).mono ?_
        rintro e w8 ⟨ga, gc, rfl, hR8, _, hb⟩
        have X8 := Lib.hid (X7.out.went hb)
        have B8 := Lib.hid (Gr.step B7.out hb)
        have IC1 := Lib.hid (I1.out fa ga fc gc w8 (R7.out.below hb (Nat.le_refl _)) hR8)
        clear hb X7 B7 RFC hR8 R7 I1
        go_wp2_with fail
        refine IC1.out.mono ?_
        rintro e w9 ⟨rfl, hb⟩
        have X9 := Lib.hid (X8.out.went hb)
        have B9 := Lib.hid (Gr.step B8.out hb)
        clear hb X8 B8 IC1
        go_wp2_with fail
        refine (FOC.out _ B9.out).mono ?_
        rintro e w10 ⟨ha, hc, rfl, hR10, _, hb⟩
        have X10 := Lib.hid (X9.out.went hb)
        have B10 := Lib.hid (Gr.step B9.out hb)
        have R10 := Lib.hid hR10
        clear hb X9 B9 FOC hR10
        go_wp2_with fail
        refine (ROC.out _ B10.out).mono ?_
        rintro e w11 ⟨ja, jc, rfl, hR11, _, hb⟩
        have X11 := Lib.hid (X10.out.went hb)
        have B11 := Lib.hid (Gr.step B10.out hb)
        have IC2 := Lib.hid (I2.out ha ja hc jc w11 (R10.out.below hb (Nat.le_refl _)) hR11)
        clear hb X10 B10 ROC hR11 R10 I2
        go_wp2_with fail
        refine IC2.out.mono ?_
        rintro e w12 ⟨rfl, hb⟩
        have X12 := Lib.hid (X11.out.went hb)
        have B12 := Lib.hid (Gr.step B11.out hb)
        clear hb X11 B11 IC2
        go_wp2
        go_roundw
        case rel => exact ⟨s + 1, by omega, by omega, by go_num, X12.out, B12.out⟩
        case measure => simp [intOf]; omega
      · clear EM RE FI RF FO RO
        go_wp2_with fail
        refine (TO.out _ X.out.below).mono ?_
        rintro e w4 ⟨rfl, hb⟩
        have X4 := Lib.hid (X.out.went hb)
        have B4 := Lib.hid (Gr.step B.out hb)
        clear hb x0 x1 x2 x3 X B
        go_wp2_with fail
        refine (LN.out _ B4.out).mono ?_
        rintro e w5 ⟨la, lc, rfl, hR5, _, hb⟩
        have X5 := Lib.hid (X4.out.went hb)
        have B5 := Lib.hid (Gr.step B4.out hb)
        have R5 := Lib.hid hR5
        clear hb X4 B4 hR5 LN
        go_wp2_with fail
        refine (RN.out _ B5.out).mono ?_
        rintro e w6 ⟨ma, mc, rfl, hR6, _, hb⟩
        have X6 := Lib.hid (X5.out.went hb)
        have IC := Lib.hid (IS.out LB la ma lc mc w6 (R5.out.below hb (Nat.le_refl _)) hR6)
        clear hb X5 B5 hR6 RN R5 IS
        go_wp2_with fail
        refine IC.out.mono ?_
        rintro e w7 ⟨rfl, hb⟩
        have X7 := Lib.hid (X6.out.went hb)
        clear hb X6 IC
        go_wp2_with (go_at_call 5; refine (AW.out _ X7.out.below).mono ?_; rintro e w8 ⟨rfl, hb⟩; have HB := Lib.hid (Gr.step X7.out.below hb); clear hb)
        go_ret
        exact ⟨rfl, HB.out⟩

end Go.Proofs.YtoipinnfmjaaaaaGreatDoor.Fr
