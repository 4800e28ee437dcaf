/-
  The walk of the statement on finding. No condition.
-/
import Derived.Test.YtjjmoonajijnmaaAutoWay
import Derived.Test.YtjjmoonajijnmaaMAutoF
import Derived.Test.YtjjmoonajijnmaaMAutoQ
import Derived.Test.YtjjmoonajijnmaaAutoAwake
namespace Go.Proofs.Ytjjmoonajijnmaa.Au
open Go.RowKit Go.Maps
open Go.Proofs.Ytjjmoonajijnmaa.Gr (boxed drawn cell_new cell_old cell_later bool_of int_of ivs)
open Go.Proofs.Ytjjmoonajijnmaa.Im
set_option linter.unusedVariables false

/-- The first k are short. -/
def ShortTo (X : List Sta) (k : Nat) : Prop := ∀ j (h : j < X.length), j < k → X[j].1.length ≤ 50 ∧ X[j].2.length ≤ 50
theorem short_next {X : List Sta} {k : Nat} (h : ShortTo X k) (hk : k < X.length) (e : X[k].1.length ≤ 50 ∧ X[k].2.length ≤ 50) : ShortTo X (k + 1) := fun j hj hl => by
  by_cases he : j = k
  · subst he
    exact e
  · exact h j hj (by omega)
theorem short_all {X : List Sta} (h : ShortTo X X.length) (hl : X.length ≤ 50) : Small X := ⟨by omega, fun s hs => by
  obtain ⟨j, hj, rfl⟩ := List.mem_iff_getElem.1 hs
  have := (h j hj hj).1
  omega, fun s hs => by
  obtain ⟨j, hj, rfl⟩ := List.mem_iff_getElem.1 hs
  have := (h j hj hj).2
  omega⟩

set_option maxRecDepth 100000 in
set_option maxHeartbeats 8000000 in
theorem finds_law (X : List Sta) (a : Option Addr) (c : Nat) (K : List Itm) (b : Option Addr) (d : Nat) (i s : Int) (L : List Int) (al : Option Addr) (cl : Nat) (w : World)
    (hX : StaA a X w) (hXl : X.length ≤ 17592186044416) (hK : ItsA b K w) (hKl : K.length ≤ 17592186044416) (hL : Sep.Reads al (ivs L) w) (hLl : L.length ≤ 140737488355328) :
    Calls Try.prog 3 #[.slice a X.length c, .slice b K.length d, .int .i64 i, .int .i64 s, .slice al L.length cl] w (Gr.Is (.bool true) w) := by
  have HX := Lib.hid (fun w1 (k : Below w.heap.size w w1) => hX.went k)
  have HK := Lib.hid (fun w1 (k : Below w.heap.size w w1) => hK.went k)
  have HL := Lib.hid (fun w1 (k : Below w.heap.size w w1) => hL.below k (Nat.le_refl _))
  have AW := Lib.hid awake_any
  clear hX hK hL
  by_cases hx9 : 50 < X.length
  · go_enter Try.func3, Try.ntmps3
    go_wp2_with (go_at_call 6; refine (AW.out _).mono ?_; rintro e w2 ⟨rfl, hb⟩; have HB := Lib.hid hb; clear hb)
    go_ret
    exact ⟨rfl, HB.out⟩
  by_cases hk9 : 50 < K.length
  · go_enter Try.func3, Try.ntmps3
    go_wp2_with (go_at_call 6; refine (AW.out _).mono ?_; rintro e w2 ⟨rfl, hb⟩; have HB := Lib.hid hb; clear hb)
    go_ret
    exact ⟨rfl, HB.out⟩
  by_cases hl9 : 50 < L.length
  · go_enter Try.func3, Try.ntmps3
    go_wp2_with (go_at_call 6; refine (AW.out _).mono ?_; rintro e w2 ⟨rfl, hb⟩; have HB := Lib.hid hb; clear hb)
    go_ret
    exact ⟨rfl, HB.out⟩
  go_enter Try.func3, Try.ntmps3
  go_wp2_with fail
  go_loopw [11] (fun q wr => ∃ k : Nat, q = .int .i64 k ∧ k ≤ X.length ∧ ShortTo X k ∧ Below w.heap.size w wr) (fun q _ => X.length - (intOf q).toNat)
  case atStart => exact ⟨0, rfl, Nat.zero_le _, fun j _ h => absurd h (Nat.not_lt_zero j), .refl _ _⟩
  case round =>
    obtain ⟨k, rfl, hk, hS, hW⟩ := hrel
    have S := Lib.hid hS
    have HW := Lib.hid hW
    clear hS
    by_cases hlt : k < X.length
    · obtain ⟨b0, o0, a1, c1, a2, c2, rfl, z1, z2, i1, i2, l1, l2⟩ := HX.out wr hW k hlt
      have NX := Lib.hid (fun e => short_next S.out hlt e)
      clear hW i1 i2 l1 l2 S
      by_cases h1 : 50 < X[k].1.length
      · generalize X[k].1.length = n1 at *
        generalize X[k].2.length = n2 at *
        go_wp2_with (go_at_call 6; refine (AW.out _).mono ?_; rintro e w2 ⟨rfl, hb⟩; have HB := Lib.hid (Gr.step HW.out hb); clear hb)
        go_ret
        exact ⟨rfl, HB.out⟩
      · by_cases h2 : 50 < X[k].2.length
        · generalize X[k].1.length = n1 at *
          generalize X[k].2.length = n2 at *
          go_wp2_with (go_at_call 6; refine (AW.out _).mono ?_; rintro e w2 ⟨rfl, hb⟩; have HB := Lib.hid (Gr.step HW.out hb); clear hb)
          go_ret
          exact ⟨rfl, HB.out⟩
        · have N2 := Lib.hid (NX.out ⟨by omega, by omega⟩)
          clear NX
          generalize X[k].1.length = n1 at *
          generalize X[k].2.length = n2 at *
          go_wp2_with fail
          go_roundw
          case rel => exact ⟨k + 1, by go_num, by omega, N2.out, HW.out⟩
          case measure => simp [intOf]; omega
    · have hE : k = X.length := by omega
      have sm := short_all (by rw [← hE]; exact S.out) (by omega)
      have F1 := Lib.hid (fun w1 (q : Below w.heap.size w w1) => find_any X K a b c d w1 (HX.out w1 q) sm (HK.out w1 q))
      have F2 := Lib.hid (fun w1 (q : Below w.heap.size w w1) => rfind_any X K a b c d w1 (HX.out w1 q) sm (HK.out w1 q))
      have G1 := Lib.hid (fun w1 (q : Below w.heap.size w w1) => goto_any X a c i s w1 (HX.out w1 q) sm)
      have G2 := Lib.hid (fun w1 (q : Below w.heap.size w w1) => rgoto_any X a c i s w1 (HX.out w1 q) sm)
      have W1 := Lib.hid (fun w1 (q : Below w.heap.size w w1) => walk_any X a c i L al cl w1 (HX.out w1 q) sm (HL.out w1 q) (by omega))
      have W2 := Lib.hid (fun w1 (q : Below w.heap.size w w1) => rwalk_any X a c i L al cl w1 (HX.out w1 q) sm (HL.out w1 q) (by omega))
      generalize findS X K = f at *
      generalize gotoS X i s = g at *
      generalize walkS X i L = v at *
      clear S hW HX HK HL sm
      go_wp2_with (first
        | (go_at_call 7; refine (F1.out _ HW.out).mono ?_; rintro e w2 ⟨rfl, hb⟩; have b2 := Gr.step HW.out hb; clear hb)
        | (go_at_call 8; refine (F2.out _ b2).mono ?_; rintro e w3 ⟨rfl, hb⟩; have b3 := Gr.step b2 hb; clear hb)
        | (go_at_call 9; refine (G1.out _ b3).mono ?_; rintro e w4 ⟨rfl, hb⟩; have b4 := Gr.step b3 hb; clear hb)
        | (go_at_call 10; refine (G2.out _ b4).mono ?_; rintro e w5 ⟨rfl, hb⟩; have b5 := Gr.step b4 hb; clear hb)
        | (go_at_call 11; refine (W1.out _ b5).mono ?_; rintro e w6 ⟨rfl, hb⟩; have b6 := Gr.step b5 hb; clear hb)
        | (go_at_call 12; refine (W2.out _ b6).mono ?_; rintro e w7 ⟨rfl, hb⟩; have b7 := Gr.step b6 hb; clear hb)
        | (go_at_call 6; refine (AW.out _).mono ?_; rintro e w8 ⟨rfl, hb⟩; have b8 := Lib.hid (Gr.step b7 hb); clear hb))
      go_ret
      exact ⟨rfl, b8.out⟩

end Go.Proofs.Ytjjmoonajijnmaa.Au
