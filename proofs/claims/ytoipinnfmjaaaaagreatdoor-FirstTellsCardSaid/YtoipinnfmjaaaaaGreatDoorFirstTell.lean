/-
  Package first: Empty, First, Line, Follow. Condition: the library's table in math/bits holds its numbers; a list is within a machine's reach.
-/
import Derived.Test.YtoipinnfmjaaaaaGreatDoorFirstOf
namespace Go.Proofs.YtoipinnfmjaaaaaGreatDoor.Fi
open Go.RowKit Go.Maps
open Go.Proofs.YtoipinnfmjaaaaaGreatDoor.Gr
open Go.Proofs.YtoipinnfmjaaaaaGreatDoor.Bt (SetAt SetV Keeps OtherV Upto has putI putR Tab els)
open Go.Proofs.YtoipinnfmjaaaaaGreatDoor.Rw (Bk)
set_option linter.unusedVariables false

theorem listed_of {l : List Int} {B : Nat → Bool} {W w : World} {e : Ending} {w' : World} (hE : (els B).map Bt.iv = ivs l) (hb : Below W.heap.size W w) (h : Bt.Listed B w e w') : Listed l W e w' := by
  obtain ⟨v, rfl, ho, hb2⟩ := h
  have hl : (els B).length = l.length := by
    have := congrArg List.length hE
    simpa [ivs] using this
  rw [hE, hl] at ho
  obtain ⟨a, c, rfl⟩ := Sep.ownsRow_shape ho
  exact ⟨a, c, rfl, Sep.Reads.of_row ho, row_new ho hb.size, Gr.step hb hb2⟩
theorem els_lst {P : Int → Bool} {n : Nat} (h : Rng P n) (hn : n ≤ 4096) : (els (rw' P)).map Bt.iv = ivs (lst P n) := by
  rw [← els_rw h hn]
  unfold ivs
  rw [List.map_map]
  rfl
theorem fptr_set {I : Ix → Prop} {P D : Ix → Nat} {p q1 q2 t n : Nat} {C : Int → Bool} {F B : Int → Int → Bool} {O : Nat → Bool} {w : World} (h : SAt I P D p q1 q2 t n (tv C F B O) w) (hT : TOk t n C F B) (x : Int) : ∃ m, SetV (fptr P n x) m (rw' (F x)) w := by
  unfold fptr
  by_cases hx : 0 ≤ x ∧ x < (n : Int)
  · rw [if_pos hx]
    have := h.fam.at_ (.f x.toNat) (h.if_ x.toNat (by omega))
    rw [show tv C F B O (.f x.toNat) = rw' (F x) from by show rw' (F ((x.toNat : Nat) : Int)) = _; rw [show ((x.toNat : Nat) : Int) = x from by omega]] at this
    exact ⟨_, .at_ this⟩
  · rw [if_neg hx, rw_none hT.f2 hx]
    exact ⟨0, .nil _⟩
theorem gptr_set {I : Ix → Prop} {P D : Ix → Nat} {p q1 q2 t n : Nat} {C : Int → Bool} {F B : Int → Int → Bool} {O : Nat → Bool} {w : World} (h : SAt I P D p q1 q2 t n (tv C F B O) w) (hT : TOk t n C F B) (x : Int) : ∃ m, SetV (gptr P t n x) m (rw' (B x)) w := by
  unfold gptr
  by_cases hx : (t : Int) < x ∧ x < (n : Int)
  · rw [if_pos hx]
    have := h.fam.at_ (.g x.toNat) (h.ig x.toNat (by omega) (by omega))
    rw [show tv C F B O (.g x.toNat) = rw' (B x) from by show rw' (B ((x.toNat : Nat) : Int)) = _; rw [show ((x.toNat : Nat) : Int) = x from by omega]] at this
    exact ⟨_, .at_ this⟩
  · rw [if_neg hx]
    have e : rw' (B x) = fun _ => false := by
      funext i
      unfold rw'
      cases e : B x (i : Int) with
      | false => rfl
      | true => exact absurd (hT.b2 _ _ e) hx
    rw [e]
    exact ⟨0, .nil _⟩
theorem els_none : (els fun _ : Nat => false).map Bt.iv = ivs [] := by
  have : els (fun _ : Nat => false) = [] := by
    unfold Bt.els
    rw [List.filter_eq_nil_iff]
    intro a _ h
    cases h
  rw [this]
  rfl
theorem lst_false (n : Nat) : lst (fun _ => false) n = [] := lst_none fun _ _ => rfl

theorem empty_any {nl : Bool} {I : Ix → Prop} {P D : Ix → Nat} {v : Value} {t n : Nat} {C : Int → Bool} {F B : Int → Int → Bool} {O : Nat → Bool} (w : World) (h : VS nl I P D v t n C F B O w) (hT : nl = false → TOk t n C F B) (x : Int) (hx : x ≤ 9223372036854775807) :
    Calls Tryz.prog 9 #[v, .int .i64 x] w (Is (.bool (C x)) w) := by
  rcases h with ⟨h1, rfl, rfl, rfl, rfl⟩ | ⟨h1, p, q1, q2, rfl, h2⟩
  · exact empty_nil x w
  · exact empty_at w h2 (hT h1).c x hx

set_option maxHeartbeats 2000000 in
theorem first_any {nl : Bool} {I : Ix → Prop} {P D : Ix → Nat} {v : Value} {t n : Nat} {C : Int → Bool} {F B : Int → Int → Bool} {O : Nat → Bool} (w : World) (h : VS nl I P D v t n C F B O w) (hT : nl = false → TOk t n C F B) (htab : Tab w) (ht : t ≤ 4000) (x : Int) :
    Calls Tryz.prog 12 #[v, .int .i64 x] w (Listed (lst (F x) (t + 1)) w) := by
  have TB := Lib.hid (fun w1 (b : Below w.heap.size w w1) => htab.below b htab.pos)
  rcases h with ⟨h1, rfl, rfl, rfl, rfl⟩ | ⟨h1, p, q1, q2, rfl, h2⟩
  · have FC := Lib.hid (first_nil x w)
    rw [lst_false]
    clear hT htab
    go_enter Tryz.func12, Tryz.ntmps12
    go_wp2_with (first
      | (go_at_call 31; refine FC.out.mono ?_; rintro e w1 ⟨rfl, hb⟩; have B1 := Lib.hid hb; clear hb)
      | (go_at_call 32; refine (Bt.list_any _ (.nil _) (TB.out _ B1.out)).mono ?_; rintro e w3 hl; have L := Lib.hid (listed_of els_none B1.out hl); obtain ⟨v, rfl, _, _⟩ := hl))
    go_ret
    exact L.out
  · have T := Lib.hid (hT h1)
    have H := Lib.hid h2
    have FC := Lib.hid (first_at w h2 x)
    have SV := Lib.hid (fun w1 (b : Below w.heap.size w w1) => fptr_set (h2.went b) T.out x)
    have E := Lib.hid (els_lst (T.out.f1 x) (by omega))
    clear hT htab h2
    generalize fptr P n x = u at *
    go_enter Tryz.func12, Tryz.ntmps12
    go_wp2_with (first
      | (go_at_call 31; refine FC.out.mono ?_; rintro e w1 ⟨rfl, hb⟩; have B1 := Lib.hid hb; clear hb; obtain ⟨m, hsv⟩ := SV.out _ B1.out; have V1 := Lib.hid hsv; clear hsv)
      | (go_at_call 32; refine (Bt.list_any _ V1.out (TB.out _ B1.out)).mono ?_; rintro e w3 hl; have L := Lib.hid (listed_of E.out B1.out hl); obtain ⟨v, rfl, _, _⟩ := hl))
    go_ret
    exact L.out

set_option maxHeartbeats 2000000 in
theorem follow_any {nl : Bool} {I : Ix → Prop} {P D : Ix → Nat} {v : Value} {t n : Nat} {C : Int → Bool} {F B : Int → Int → Bool} {O : Nat → Bool} (w : World) (h : VS nl I P D v t n C F B O w) (hT : nl = false → TOk t n C F B) (htab : Tab w) (ht : t ≤ 4000) (x : Int) :
    Calls Tryz.prog 14 #[v, .int .i64 x] w (Listed (lst (B x) (t + 1)) w) := by
  have TB := Lib.hid (fun w1 (b : Below w.heap.size w w1) => htab.below b htab.pos)
  rcases h with ⟨h1, rfl, rfl, rfl, rfl⟩ | ⟨h1, p, q1, q2, rfl, h2⟩
  · have FC := Lib.hid (follow_nil x w)
    rw [lst_false]
    clear hT htab
    go_enter Tryz.func14, Tryz.ntmps14
    go_wp2_with (first
      | (go_at_call 34; refine FC.out.mono ?_; rintro e w1 ⟨rfl, hb⟩; have B1 := Lib.hid hb; clear hb)
      | (go_at_call 32; refine (Bt.list_any _ (.nil _) (TB.out _ B1.out)).mono ?_; rintro e w3 hl; have L := Lib.hid (listed_of els_none B1.out hl); obtain ⟨v, rfl, _, _⟩ := hl))
    go_ret
    exact L.out
  · have T := Lib.hid (hT h1)
    have H := Lib.hid h2
    have FC := Lib.hid (follow_at w h2 x)
    have SV := Lib.hid (fun w1 (b : Below w.heap.size w w1) => gptr_set (h2.went b) T.out x)
    have E := Lib.hid (els_lst (T.out.b1 x) (by omega))
    clear hT htab h2
    generalize gptr P t n x = u at *
    go_enter Tryz.func14, Tryz.ntmps14
    go_wp2_with (first
      | (go_at_call 34; refine FC.out.mono ?_; rintro e w1 ⟨rfl, hb⟩; have B1 := Lib.hid hb; clear hb; obtain ⟨m, hsv⟩ := SV.out _ B1.out; have V1 := Lib.hid hsv; clear hsv)
      | (go_at_call 32; refine (Bt.list_any _ V1.out (TB.out _ B1.out)).mono ?_; rintro e w3 hl; have L := Lib.hid (listed_of E.out B1.out hl); obtain ⟨v, rfl, _, _⟩ := hl))
    go_ret
    exact L.out

/-- A list and a bool come back; nothing that was there is written. -/
def Lined (l : List Int) (b : Bool) (w : World) (e : Ending) (w' : World) : Prop :=
  ∃ a c, e = .returned (.tuple #[.slice a l.length c, .bool b]) ∧ Sep.Reads a (ivs l) w' ∧ New a w ∧ Below w.heap.size w w'
theorem jn_lineB {C : Int → Bool} {F : Int → Int → Bool} {L : List Int} : jn no0 F (L.take (headN C L)) = rw' (lineB C F L) := by
  funext i
  unfold jn rw'
  rw [head_line]
  rfl
theorem lineB_false {C : Int → Bool} (l : List Int) (t : Int) : lineB C (fun _ _ => false) l t = false := by
  induction l with
  | nil => rfl
  | cons a l ih =>
    unfold lineB
    rw [ih]
    simp
theorem iab_o {t a b : Nat} : ¬ Iab t a b .o := fun h => h

set_option maxRecDepth 100000 in
set_option maxHeartbeats 4000000 in
theorem line_any {nl : Bool} {t n : Nat} {P D : Ix → Nat} {v : Value} {C : Int → Bool} {F B : Int → Int → Bool} {O : Nat → Bool} (w : World) (h : VS nl (Iab t n n) P D v t n C F B O w) (hT : nl = false → TOk t n C F B) (htab : Tab w) (ht : t ≤ 4000) (L : List Int) (a : Option Addr) (c : Nat) (hR : Sep.Reads a (ivs L) w) (hL : LOk L c) :
    Calls Tryz.prog 16 #[v, .slice a L.length c] w (Lined (lst (lineB C F L) (t + 1)) (!nl && allC C L) w) := by
  rcases h with ⟨rfl, rfl, rfl, rfl, rfl⟩ | ⟨rfl, p, q1, q2, rfl, h2⟩
  · have e : lst (lineB (fun _ => false) (fun _ _ => false) L) (t + 1) = [] := lst_none fun i _ => lineB_false _ _
    rw [e]
    clear hT htab hR hL
    go_enter Tryz.func16, Tryz.ntmps16
    go_wp2
    go_ret2
    exact ⟨none, 0, rfl, .nil _ _, (fun x h => by cases h), .refl _ _⟩
  · have TB := Lib.hid (fun w1 (b : Below w.heap.size w w1) => htab.below b htab.pos)
    have T := Lib.hid (hT rfl)
    have H := Lib.hid h2
    have TM := Lib.hid (terms_at w h2)
    have HDC := Lib.hid (fun w1 (b : Below w.heap.size w w1) => head_at w1 (h2.went b) T.out.c L a c (Sep.Reads.below hR b (Nat.le_refl _)) hL)
    have JOC := Lib.hid (fun I' P' D' w1 (k : SAt I' P' D' p q1 q2 t n (tv C F B no0) w1) (hk : I' .o) (hb : Below w.heap.size w w1) (hd : w.heap.size ≤ D' .o) => join_at w w1 k T.out .o hk rfl hb hd (L.take (headN C L)) a c (reads_take hR _) (hL.take _))
    rw [take_len] at JOC
    unfold HeadEnd at HDC
    have E := Lib.hid (els_lst (lineB_rng (C := C) T.out.f1 L) (show t + 1 ≤ 4096 by omega))
    clear hT htab h2 hR
    have hcap := hL.cap
    clear hL
    generalize allC C L = al at *
    rw [Bool.not_false, Bool.true_and]
    go_enter Tryz.func16, Tryz.ntmps16
    go_wp2_with (first
      | (go_at_call 36; refine TM.out.mono ?_; rintro e w1 ⟨pN, dN, rfl, hp1, hd1, hs1, hb1, _⟩; have B1 := Lib.hid hb1; obtain ⟨I', P', D', hk', hI', rfl, rfl⟩ := H.out.more iab_o hb1 hs1 hp1 hd1; have K1 := Lib.hid hk'; have O1 := Lib.hid hI'; have D1 := Lib.hid hd1; clear hp1 hd1 hs1 hb1 hk' hI')
      | (go_at_call 37; refine (HDC.out _ B1.out).mono ?_; rintro e w2 ⟨rfl, hb⟩; have B2 := Lib.hid (Gr.step B1.out hb); have K2 := Lib.hid (K1.out.went hb); clear hb)
      | (go_at_call 38; refine (JOC.out _ _ _ _ K2.out O1.out B2.out D1.out).mono ?_; rintro e w3 ⟨b, rfl, hg, hs3, hk3⟩; have B3 := Lib.hid (below_keeps B2.out D1.out hk3); have S3 := Lib.hid hs3; clear hg hs3 hk3)
      | (go_at_call 32; refine (Bt.list_any _ (.at_ S3.out) (TB.out _ B3.out)).mono ?_; rintro e w4 hl; have LL := Lib.hid (listed_of (l := lst (lineB C F L) (t + 1)) (by rw [show jn (tv C F B no0 .o) F (L.take (headN C L)) = rw' (lineB C F L) from jn_lineB]; exact E.out) B3.out hl); obtain ⟨v, rfl, _, _⟩ := hl))
    go_ret2
    obtain ⟨a4, c4, e4, h4⟩ := LL.out
    injection e4 with e4
    subst e4
    exact ⟨a4, c4, rfl, h4⟩

end Go.Proofs.YtoipinnfmjaaaaaGreatDoor.Fi
