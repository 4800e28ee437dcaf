/-
  The walk of the statement on unions: in whatever order, three sets of one room have one union; it has each; a copy stays as it was.
-/
import Derived.Test.YtmocndhcahongaaDoorBitsOf
namespace Go.Proofs.YtmocndhcahongaaDoor.Bt
open Go.RowKit

/-- Three sets of one's own that lie apart. -/
structure Three (W : World) (p1 d1 p2 d2 p3 d3 c : Nat) (X Y T : Nat → Bool) (w : World) : Prop where
  x : Own W p1 d1 c X w
  y : Own W p2 d2 c Y w
  t : Own W p3 d3 c T w
  a12 : p1 ≠ d2 ∧ d1 ≠ d2
  a21 : p2 ≠ d1
  a3 : p3 ≠ d1 ∧ d3 ≠ d1 ∧ p3 ≠ d2 ∧ d3 ≠ d2

theorem Own.kept {W : World} {p d n b : Nat} {B : Nat → Bool} {w w' : World} (h : Own W p d n B w) (k : Keeps b w w') (hb : W.heap.size ≤ b) (hp : p ≠ b) (hd : d ≠ b) : Own W p d n B w' :=
  ⟨h.pos, h.hp, h.hd, h.set.keeps k hp hd, h.below.trans (k.below hb h.below.size), k.tab h.tab (by have := h.pos; omega)⟩

theorem Three.went {W : World} {p1 d1 p2 d2 p3 d3 c : Nat} {X Y T : Nat → Bool} {w w' : World} (h : Three W p1 d1 p2 d2 p3 d3 c X Y T w) (hb : Below w.heap.size w w') : Three W p1 d1 p2 d2 p3 d3 c X Y T w' :=
  ⟨h.x.went hb, h.y.went hb, h.t.went hb, h.a12, h.a21, h.a3⟩

theorem Three.wroteX {W : World} {p1 d1 p2 d2 p3 d3 c : Nat} {X Y T X' : Nat → Bool} {w w' : World} (h : Three W p1 d1 p2 d2 p3 d3 c X Y T w) (hs : SetAt p1 d1 c X' w') (hk : Keeps d1 w w') : Three W p1 d1 p2 d2 p3 d3 c X' Y T w' :=
  ⟨h.x.wrote hs hk, h.y.kept hk h.x.hd h.a21 (Ne.symm h.a12.2), h.t.kept hk h.x.hd h.a3.1 h.a3.2.1, h.a12, h.a21, h.a3⟩

theorem Three.wroteY {W : World} {p1 d1 p2 d2 p3 d3 c : Nat} {X Y T Y' : Nat → Bool} {w w' : World} (h : Three W p1 d1 p2 d2 p3 d3 c X Y T w) (hs : SetAt p2 d2 c Y' w') (hk : Keeps d2 w w') : Three W p1 d1 p2 d2 p3 d3 c X Y' T w' :=
  ⟨h.x.kept hk h.y.hd h.a12.1 h.a12.2, h.y.wrote hs hk, h.t.kept hk h.y.hd h.a3.2.2.1 h.a3.2.2.2, h.a12, h.a21, h.a3⟩

theorem Own.other {w w' : World} {p d c b : Nat} {Z : Nat → Bool} (h : Own w p d c Z w') (hb : b < w.heap.size) : OtherV b (.pointer (some ⟨p, 0, none⟩)) c Z w' :=
  .at_ h.set (by have := h.hp; omega) (by have := h.hd; omega)

theorem orr_eq {n : Nat} {C : Nat → Bool} (h : Upto C n) (B : Nat → Bool) : orr B n C = fun j => B j || C j := by
  funext j
  unfold orr
  by_cases hj : j < n
  · simp [hj]
  · simp [hj, h.2 j (by omega)]

theorem ofK_upto (c : Nat) (hc : c ≤ 4096) (xs : Nat → Int) : ∀ k, Upto (ofK c xs k) c
  | 0 => no_upto hc
  | k + 1 => (ofK_upto c hc xs k).putI (xs k)

theorem same_self2 (B : Nat → Bool) : same B B = true := by simp [same]

section
variable {c : Nat} {A B C : Nat → Bool}
theorem union_same (hA : Upto A c) (hB : Upto B c) (hC : Upto C c) : same (orr (orr (orr A c B) c C) c A) (orr (orr C c B) c A) = true := by
  have : orr (orr (orr A c B) c C) c A = orr (orr C c B) c A := by
    rw [orr_eq hA, orr_eq hC, orr_eq hB, orr_eq hA, orr_eq hB]
    funext j
    show (((A j || B j) || C j) || A j) = ((C j || B j) || A j)
    cases A j <;> cases B j <;> cases C j <;> rfl
  rw [this]
  exact same_self2 _

theorem union_none (hB : Upto B c) (hC : Upto C c) : gains (orr (orr A c B) c C) c A = false :=
  gains_no fun i _ h => by rw [orr_eq hC, orr_eq hB]; simp [h]

theorem union_more (hA : Upto A c) (hB : Upto B c) (hC : Upto C c) : (els A).length ≤ (els (orr (orr (orr A c B) c C) c A)).length := by
  unfold els
  rw [← List.countP_eq_length_filter, ← List.countP_eq_length_filter]
  refine List.countP_mono_left fun i _ h => ?_
  rw [orr_eq hA, orr_eq hC, orr_eq hB]
  simp [h]
end

set_option maxHeartbeats 2000000 in
set_option maxRecDepth 100000 in
theorem unites_any (n : Int) (o1 o2 o3 : Option Addr) (l1 c1 l2 c2 l3 c3 : Nat) (x1 x2 x3 : Nat → Int) (w : World) (hT : Tab w) (g1 : Given o1 l1 x1 w) (g2 : Given o2 l2 x2 w) (g3 : Given o3 l3 x3 w) :
    Calls Tryd.prog 4 #[.int .i64 n, .slice o1 l1 c1, .slice o2 l2 c2, .slice o3 l3 c3] w (Yes w) := by
  have hA := ofK_upto (cap n) (cap_le n) x1 (few l1)
  have hB := ofK_upto (cap n) (cap_le n) x2 (few l2)
  have hC := ofK_upto (cap n) (cap_le n) x3 (few l3)
  have O1 := Lib.hid (fun w' (h : Below w.heap.size w w') => of_any n o1 l1 c1 x1 w' (hT.below h hT.pos) (g1.below h))
  have O2 := Lib.hid (fun w' (h : Below w.heap.size w w') => of_any n o2 l2 c2 x2 w' (hT.below h hT.pos) (g2.below h))
  have O3 := Lib.hid (fun w' (h : Below w.heap.size w w') => of_any n o3 l3 c3 x3 w' (hT.below h hT.pos) (g3.below h))
  clear hT g1 g2 g3
  generalize ofK (cap n) x1 (few l1) = A at *
  generalize ofK (cap n) x2 (few l2) = B at *
  generalize ofK (cap n) x3 (few l3) = C at *
  have S1 := Lib.hid (union_same hA hB hC)
  have S2 := Lib.hid (union_none (A := A) hB hC)
  have S3 := union_more hA hB hC
  clear hA hB hC
  generalize cap n = c at *
  go_enter Tryd.func4, Tryd.ntmps4
  go_wp2_with fail
  refine (O1.out w (.refl _ _)).mono ?_
  rintro e w1 ⟨p1, d1, rfl, h1⟩
  have H1 := Lib.hid h1
  clear h1
  go_wp2_with fail
  refine (O3.out w1 H1.out.below).mono ?_
  rintro e w2 ⟨p2, d2, rfl, h2⟩
  have H2 := Lib.hid h2
  clear h2
  have HX := Lib.hid (H1.out.went H2.out.below)
  have HTw := Lib.hid (twin_at w2 HX.out.set)
  go_wp2_with fail
  refine HTw.out.mono ?_
  rintro e w3 ⟨p3, d3, rfl, hp3, hd3, hs3, hb3⟩
  have H3 : Hid (Three w p1 d1 p2 d2 p3 d3 c A C A w3) := by
    have q1 := H1.out.set.inp
    have q2 := H1.out.set.ind
    have q3 := H2.out.hp
    have q4 := H2.out.hd
    have q5 := H2.out.set.inp
    have q6 := H2.out.set.ind
    have q7 := H2.out.below.size
    have q8 := H1.out.below.size
    have hw : Below w.heap.size w w2 := HX.out.below
    refine ⟨HX.out.went hb3, ⟨HX.out.pos, by omega, by omega, H2.out.set.below hb3 q5 q6, hw.trans (hb3.mono hw.size), H2.out.tab.below hb3 H2.out.tab.pos⟩,
      ⟨HX.out.pos, by have := hw.size; omega, by have := hw.size; omega, hs3, hw.trans (hb3.mono hw.size), H2.out.tab.below hb3 H2.out.tab.pos⟩, ⟨by omega, by omega⟩, by omega, by omega, by omega, by omega, by omega⟩
  clear hp3 hd3 hs3 hb3 HTw HX H1 H2
  go_wp2_with fail
  refine (O2.out w3 H3.out.x.below).mono ?_
  rintro e w4 ⟨p4, d4, rfl, h4⟩
  have H4 := Lib.hid h4
  have H5 := Lib.hid (H3.out.went h4.below)
  have HR := Lib.hid (or_any w4 H5.out.x.set (h4.other H3.out.x.set.ind))
  clear h4 H3
  go_wp2_with fail
  refine HR.out.mono ?_
  rintro e w5 ⟨rfl, hs, hk⟩
  have H6 := Lib.hid (H5.out.wroteX hs hk)
  clear hs hk HR H4 H5
  go_wp2_with fail
  refine (O3.out w5 H6.out.x.below).mono ?_
  rintro e w6 ⟨p5, d5, rfl, h4⟩
  have H4 := Lib.hid h4
  have H5 := Lib.hid (H6.out.went h4.below)
  have HR := Lib.hid (or_any w6 H5.out.x.set (h4.other H6.out.x.set.ind))
  clear h4 H6
  go_wp2_with fail
  refine HR.out.mono ?_
  rintro e w7 ⟨rfl, hs, hk⟩
  have H6 := Lib.hid (H5.out.wroteX hs hk)
  clear hs hk HR H4 H5
  go_wp2_with fail
  refine (O2.out w7 H6.out.x.below).mono ?_
  rintro e w8 ⟨p6, d6, rfl, h4⟩
  have H4 := Lib.hid h4
  have H5 := Lib.hid (H6.out.went h4.below)
  have HR := Lib.hid (or_any w8 H5.out.y.set (h4.other H6.out.y.set.ind))
  clear h4 H6
  go_wp2_with fail
  refine HR.out.mono ?_
  rintro e w9 ⟨rfl, hs, hk⟩
  have H6 := Lib.hid (H5.out.wroteY hs hk)
  clear hs hk HR H4 H5
  go_wp2_with fail
  refine (O1.out w9 H6.out.x.below).mono ?_
  rintro e w10 ⟨p7, d7, rfl, h4⟩
  have H4 := Lib.hid h4
  have H5 := Lib.hid (H6.out.went h4.below)
  have HR := Lib.hid (or_any w10 H5.out.y.set (h4.other H6.out.y.set.ind))
  clear h4 H6
  go_wp2_with fail
  refine HR.out.mono ?_
  rintro e w11 ⟨rfl, hs, hk⟩
  have H6 := Lib.hid (H5.out.wroteY hs hk)
  clear hs hk HR H4 H5
  go_wp2_with fail
  refine (O1.out w11 H6.out.x.below).mono ?_
  rintro e w12 ⟨p8, d8, rfl, h4⟩
  have H4 := Lib.hid h4
  have H5 := Lib.hid (H6.out.went h4.below)
  have HR := Lib.hid (or_any w12 H5.out.x.set (h4.other H6.out.x.set.ind))
  rw [S2.out] at HR
  clear h4 H6
  go_wp2_with fail
  refine HR.out.mono ?_
  rintro e w13 ⟨rfl, hs, hk⟩
  have H6 := Lib.hid (H5.out.wroteX hs hk)
  clear hs hk HR H4 H5
  have HS := Lib.hid (same_any w13 (.at_ H6.out.x.set) (.at_ H6.out.y.set))
  rw [S1.out] at HS
  generalize hX : orr (orr (orr A c B) c C) c A = X at *
  have HXX := Lib.hid hX
  clear hX S1 S2
  go_wp2_with fail
  refine HS.out.mono ?_
  rintro e w' ⟨rfl, rfl⟩
  go_wp2_with fail
  refine (O1.out w13 H6.out.x.below).mono ?_
  rintro e w14 ⟨p9, d9, rfl, h4⟩
  have H5 := Lib.hid (H6.out.went h4.below)
  have HS2 := Lib.hid (same_any w14 (.at_ H5.out.t.set) (.at_ h4.set))
  rw [same_self2] at HS2
  clear h4 H6 HS
  go_wp2_with fail
  refine HS2.out.mono ?_
  rintro e w' ⟨rfl, rfl⟩
  have HC1 := Lib.hid (count_any w14 (.at_ H5.out.x.set))
  have HC2 := Lib.hid (count_any w14 (.at_ H5.out.t.set))
  have HA := Lib.hid (awake_any w14 H5.out.x.tab)
  go_wp2_with fail
  refine HC1.out.mono ?_
  rintro e w' ⟨rfl, rfl⟩
  go_wp2_with fail
  refine HC2.out.mono ?_
  rintro e w' ⟨rfl, rfl⟩
  go_wp2_with fail
  refine HA.out.mono ?_
  rintro e w15 ⟨rfl, hb⟩
  have HB := Lib.hid (H5.out.x.below.trans (hb.mono H5.out.x.below.size))
  clear hb
  go_wp2
  go_ret
  exact ⟨rfl, HB.out⟩

end Go.Proofs.YtmocndhcahongaaDoor.Bt
