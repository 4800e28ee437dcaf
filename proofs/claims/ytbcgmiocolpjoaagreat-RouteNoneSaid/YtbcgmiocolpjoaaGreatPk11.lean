/- A part of the proof. -/
import Derived.Test.YtbcgmiocolpjoaaGreatPk09
import Derived.Test.YtbcgmiocolpjoaaGreatPk10
set_option maxHeartbeats 8000000
set_option linter.unusedVariables false
namespace Go.Proofs.YtbcgmiocolpjoaaGreat
namespace Gr
open Go.RowKit Go.Maps
theorem zG4 {G : Gram} (h : zA7 G = false) : G.terms.length <= 120 /\ G.nons.length <= 120 /\ G.rules.length <= 300 := by
 simp only [zA7, Bool.or_eq_false_iff, decide_eq_false_iff_not] at h
 omega
theorem zDv {G : Gram} (h : zA7 G = true) : checkN G = 7 := by simp [checkN, h]
theorem zDu {G : Gram} (h : zA7 G = false) (h1 : zBk G = false) : checkN G = 10 := by simp [checkN, h, h1]
theorem zDw {G : Gram} (h : zA7 G = false) (h1 : zBk G = true) (h2 : zCl G = false) : checkN G = 8 := by simp [checkN, h, h1, h2]
theorem zC8 {G : Gram} (h : zA7 G = false) (h1 : zBk G = true) (h2 : zCl G = true) (h3 : zAt G = false) : checkN G = 1 := by simp [checkN, h, h1, h2, h3]
theorem zCt {G : Gram} (h : zA7 G = false) (h1 : zBk G = true) (h2 : zCl G = true) (h3 : zAt G = true) (h4 : zAr G = false) : checkN G = 8 := by simp [checkN, h, h1, h2, h3, h4]
theorem zC9 {G : Gram} (h : zA7 G = false) (h1 : zBk G = true) (h2 : zCl G = true) (h3 : zAt G = true) (h4 : zAr G = true) (h5 : zBq G = false) : checkN G = 9 := by simp [checkN, h, h1, h2, h3, h4, h5]
theorem zBj {G : Gram} (h : zA7 G = false) (h1 : zBk G = true) (h2 : zCl G = true) (h3 : zAt G = true) (h4 : zAr G = true) (h5 : zBq G = true) : checkN G = 0 := by simp [checkN, h, h1, h2, h3, h4, h5]
theorem zBC (h : Sh) (G : Gram) (w : World) (k : GAt h G w) :
  Calls Tryz.prog 37 #[gv h G] w (Is (.int .i64 (checkN G)) w) := by
 have X := zPB (Bx.start h G w 25)
 have M := zPB (fun w1 (b : Below w.heap.size w w1) => zLa h G w1 (k.went b))
 have F := zPB (fun w1 (b : Below w.heap.size w w1) => zFe h G w1 (k.went b))
 have O := zPB (fun w1 (b : Below w.heap.size w w1) => zDl h G w1 (k.went b))
 have K := zPB (fun w1 (b : Below w.heap.size w w1) => zDK h G w1 (k.went b))
 have U := zPB (fun w1 (b : Below w.heap.size w w1) => zDm h G w1 (k.went b))
 have KG := zPB k
 clear k
 unfold gv
 cases h0 : zA7 G with
 | true =>
  have E := zPB (zDv h0)
  rw [h0] at M
  clear h0
  go_enter Tryz.func37, Tryz.ntmps37
  go_wp2_with (first
   | (go_at_call 60; refine (M.out _ X.out.below).mono ?_; rintro e w1 ⟨rfl, hb⟩; have X := zPB (X.out.went hb); obtain ⟨x0, x1, x2, x3⟩ := X.out.box; clear hb))
  go_ret
  exact ⟨zAL E.out, X.out.below⟩
 | false =>
  rw [h0] at M
  cases h1 : zBk G with
  | false =>
   have E := zPB (zDu h0 h1)
   rw [h1] at F
   clear h0 h1
   go_enter Tryz.func37, Tryz.ntmps37
   go_wp2_with (first
    | (go_at_call 60; refine (M.out _ X.out.below).mono ?_; rintro e w1 ⟨rfl, hb⟩; have X := zPB (X.out.went hb); obtain ⟨x0, x1, x2, x3⟩ := X.out.box; clear hb)
    | (go_at_call 61; refine (F.out _ X.out.below).mono ?_; rintro e w1 ⟨rfl, hb⟩; have X := zPB (X.out.went hb); obtain ⟨x0, x1, x2, x3⟩ := X.out.box; clear hb))
   go_ret
   exact ⟨zAL E.out, X.out.below⟩
  | true =>
   rw [h1] at F
   cases h2 : zCl G with
   | false =>
    have E := zPB (zDw h0 h1 h2)
    rw [h2] at O
    clear h0 h1 h2
    go_enter Tryz.func37, Tryz.ntmps37
    go_wp2_with (first
     | (go_at_call 60; refine (M.out _ X.out.below).mono ?_; rintro e w1 ⟨rfl, hb⟩; have X := zPB (X.out.went hb); obtain ⟨x0, x1, x2, x3⟩ := X.out.box; clear hb)
     | (go_at_call 61; refine (F.out _ X.out.below).mono ?_; rintro e w1 ⟨rfl, hb⟩; have X := zPB (X.out.went hb); obtain ⟨x0, x1, x2, x3⟩ := X.out.box; clear hb)
     | (go_at_call 62; refine (O.out _ X.out.below).mono ?_; rintro e w1 ⟨rfl, hb⟩; have X := zPB (X.out.went hb); obtain ⟨x0, x1, x2, x3⟩ := X.out.box; clear hb))
    go_ret
    exact ⟨zAL E.out, X.out.below⟩
   | true =>
    rw [h2] at O
    cases h3 : zAt G with
    | false =>
     have E := zPB (zC8 h0 h1 h2 h3)
     rw [h3] at K
     clear h0 h1 h2 h3
     go_enter Tryz.func37, Tryz.ntmps37
     go_wp2_with (first
      | (go_at_call 60; refine (M.out _ X.out.below).mono ?_; rintro e w1 ⟨rfl, hb⟩; have X := zPB (X.out.went hb); obtain ⟨x0, x1, x2, x3⟩ := X.out.box; clear hb)
      | (go_at_call 61; refine (F.out _ X.out.below).mono ?_; rintro e w1 ⟨rfl, hb⟩; have X := zPB (X.out.went hb); obtain ⟨x0, x1, x2, x3⟩ := X.out.box; clear hb)
      | (go_at_call 62; refine (O.out _ X.out.below).mono ?_; rintro e w1 ⟨rfl, hb⟩; have X := zPB (X.out.went hb); obtain ⟨x0, x1, x2, x3⟩ := X.out.box; clear hb)
      | (go_at_call 63; refine (K.out _ X.out.below).mono ?_; rintro e w1 ⟨rfl, hb⟩; have X := zPB (X.out.went hb); obtain ⟨x0, x1, x2, x3⟩ := X.out.box; clear hb))
     go_ret
     exact ⟨zAL E.out, X.out.below⟩
    | true =>
     rw [h3] at K
     cases h4 : zAr G with
     | false =>
      have E := zPB (zCt h0 h1 h2 h3 h4)
      rw [h4] at U
      clear h0 h1 h2 h3 h4
      go_enter Tryz.func37, Tryz.ntmps37
      go_wp2_with (first
       | (go_at_call 60; refine (M.out _ X.out.below).mono ?_; rintro e w1 ⟨rfl, hb⟩; have X := zPB (X.out.went hb); obtain ⟨x0, x1, x2, x3⟩ := X.out.box; clear hb)
       | (go_at_call 61; refine (F.out _ X.out.below).mono ?_; rintro e w1 ⟨rfl, hb⟩; have X := zPB (X.out.went hb); obtain ⟨x0, x1, x2, x3⟩ := X.out.box; clear hb)
       | (go_at_call 62; refine (O.out _ X.out.below).mono ?_; rintro e w1 ⟨rfl, hb⟩; have X := zPB (X.out.went hb); obtain ⟨x0, x1, x2, x3⟩ := X.out.box; clear hb)
       | (go_at_call 63; refine (K.out _ X.out.below).mono ?_; rintro e w1 ⟨rfl, hb⟩; have X := zPB (X.out.went hb); obtain ⟨x0, x1, x2, x3⟩ := X.out.box; clear hb)
       | (go_at_call 64; refine (U.out _ X.out.below).mono ?_; rintro e w1 ⟨rfl, hb⟩; have X := zPB (X.out.went hb); obtain ⟨x0, x1, x2, x3⟩ := X.out.box; clear hb))
      go_ret
      exact ⟨zAL E.out, X.out.below⟩
     | true =>
      rw [h4] at U
      have hr3 := (zG4 h0).2.2
      have R := zPB (fun w1 (b : Below w.heap.size w w1) => zGa h G w1 (KG.out.went b) (by omega))
      cases h5 : zBq G with
      | false =>
       have E := zPB (zC9 h0 h1 h2 h3 h4 h5)
       rw [h5] at R
       clear h0 h1 h2 h3 h4 h5
       go_enter Tryz.func37, Tryz.ntmps37
       go_wp2_with (first
        | (go_at_call 60; refine (M.out _ X.out.below).mono ?_; rintro e w1 ⟨rfl, hb⟩; have X := zPB (X.out.went hb); obtain ⟨x0, x1, x2, x3⟩ := X.out.box; clear hb)
        | (go_at_call 61; refine (F.out _ X.out.below).mono ?_; rintro e w1 ⟨rfl, hb⟩; have X := zPB (X.out.went hb); obtain ⟨x0, x1, x2, x3⟩ := X.out.box; clear hb)
        | (go_at_call 62; refine (O.out _ X.out.below).mono ?_; rintro e w1 ⟨rfl, hb⟩; have X := zPB (X.out.went hb); obtain ⟨x0, x1, x2, x3⟩ := X.out.box; clear hb)
        | (go_at_call 63; refine (K.out _ X.out.below).mono ?_; rintro e w1 ⟨rfl, hb⟩; have X := zPB (X.out.went hb); obtain ⟨x0, x1, x2, x3⟩ := X.out.box; clear hb)
        | (go_at_call 64; refine (U.out _ X.out.below).mono ?_; rintro e w1 ⟨rfl, hb⟩; have X := zPB (X.out.went hb); obtain ⟨x0, x1, x2, x3⟩ := X.out.box; clear hb)
        | (go_at_call 65; refine (R.out _ X.out.below).mono ?_; rintro e w1 ⟨rfl, hb⟩; have X := zPB (X.out.went hb); obtain ⟨x0, x1, x2, x3⟩ := X.out.box; clear hb))
       go_ret
       exact ⟨zAL E.out, X.out.below⟩
      | true =>
       rw [h5] at R
       have E := zPB (zBj h0 h1 h2 h3 h4 h5)
       clear h0 h1 h2 h3 h4 h5
       go_enter Tryz.func37, Tryz.ntmps37
       go_wp2_with (first
        | (go_at_call 60; refine (M.out _ X.out.below).mono ?_; rintro e w1 ⟨rfl, hb⟩; have X := zPB (X.out.went hb); obtain ⟨x0, x1, x2, x3⟩ := X.out.box; clear hb)
        | (go_at_call 61; refine (F.out _ X.out.below).mono ?_; rintro e w1 ⟨rfl, hb⟩; have X := zPB (X.out.went hb); obtain ⟨x0, x1, x2, x3⟩ := X.out.box; clear hb)
        | (go_at_call 62; refine (O.out _ X.out.below).mono ?_; rintro e w1 ⟨rfl, hb⟩; have X := zPB (X.out.went hb); obtain ⟨x0, x1, x2, x3⟩ := X.out.box; clear hb)
        | (go_at_call 63; refine (K.out _ X.out.below).mono ?_; rintro e w1 ⟨rfl, hb⟩; have X := zPB (X.out.went hb); obtain ⟨x0, x1, x2, x3⟩ := X.out.box; clear hb)
        | (go_at_call 64; refine (U.out _ X.out.below).mono ?_; rintro e w1 ⟨rfl, hb⟩; have X := zPB (X.out.went hb); obtain ⟨x0, x1, x2, x3⟩ := X.out.box; clear hb)
        | (go_at_call 65; refine (R.out _ X.out.below).mono ?_; rintro e w1 ⟨rfl, hb⟩; have X := zPB (X.out.went hb); obtain ⟨x0, x1, x2, x3⟩ := X.out.box; clear hb))
       go_ret
       exact ⟨zAL E.out, X.out.below⟩
theorem zNW (G : Gram) : zCl G = decide (names G).Nodup := rfl
theorem zEH (h : Sh) (G : Gram) (w : World) (k : GAt h G w) :
  Calls Tryz.prog 30 #[gv h G] w (Is (.int .i64 (checkN G)) w) := by
 have X := zPB (Bx.start h G w 25)
 have M := zPB (fun w1 (b : Below w.heap.size w w1) => zKE h G w1 (k.went b))
 have F := zPB (fun w1 (b : Below w.heap.size w w1) => zJ9 h G w1 (k.went b))
 have K := zPB (fun w1 (b : Below w.heap.size w w1) => zII h G w1 (k.went b))
 have U := zPB (fun w1 (b : Below w.heap.size w w1) => zGV h G w1 (k.went b))
 have KG := zPB k
 clear k
 unfold gv
 cases h0 : zA7 G with
 | true =>
  have E := zPB (zDv h0)
  rw [h0] at M
  clear h0
  go_enter Tryz.func30, Tryz.ntmps30
  go_wp2_with (go_at_call 49; refine (M.out _ X.out.below).mono ?_; rintro e w1 ⟨rfl, hb⟩; have X := zPB (X.out.went hb); obtain ⟨x0, x1, x2, x3⟩ := X.out.box; clear hb)
  go_ret
  exact ⟨zAL E.out, X.out.below⟩
 | false =>
  rw [h0] at M
  obtain ⟨ht, hn, hr⟩ := zG4 h0
  have NA := zPB (fun w1 (b : Below w.heap.size w w1) => zJq h G w1 (KG.out.went b) (by omega))
  have N := zPB (fun s w1 (b : Below w.heap.size w w1) => zDT h G s w1 (KG.out.went b) (by omega))
  have hln : (names G).length <= 240 := by rw [zAb]; unfold top; omega
  have ON := zPB (fun a c w1 (hR : Sep.Reads a ((names G).map .string) w1) (hc : (names G).length <= c) => zLo (names G) a c w1 hR hc (by omega))
  cases h1 : zBk G with
  | false =>
   have E := zPB (zDu h0 h1)
   rw [h1] at F
   clear h0 h1
   go_enter Tryz.func30, Tryz.ntmps30
   go_wp2_with (first
    | (go_at_call 49; refine (M.out _ X.out.below).mono ?_; rintro e w1 ⟨rfl, hb⟩; have X := zPB (X.out.went hb); obtain ⟨x0, x1, x2, x3⟩ := X.out.box; clear hb)
    | (go_at_call 50; refine (F.out _ X.out.below).mono ?_; rintro e w1 ⟨rfl, hb⟩; have X := zPB (X.out.went hb); obtain ⟨x0, x1, x2, x3⟩ := X.out.box; clear hb))
   go_ret
   exact ⟨zAL E.out, X.out.below⟩
  | true =>
   rw [h1] at F
   rw [← zNW] at ON
   cases h2 : zCl G with
   | false =>
    have E := zPB (zDw h0 h1 h2)
    rw [h2] at ON
    clear h0 h1 h2
    go_enter Tryz.func30, Tryz.ntmps30
    go_wp2_with (first
     | (go_at_call 49; refine (M.out _ X.out.below).mono ?_; rintro e w1 ⟨rfl, hb⟩; have X := zPB (X.out.went hb); obtain ⟨x0, x1, x2, x3⟩ := X.out.box; clear hb)
     | (go_at_call 50; refine (F.out _ X.out.below).mono ?_; rintro e w1 ⟨rfl, hb⟩; have X := zPB (X.out.went hb); obtain ⟨x0, x1, x2, x3⟩ := X.out.box; clear hb)
     | (go_at_call 52; refine (NA.out _ X.out.below).mono ?_; rintro e w2 ⟨a', c', rfl, hR, hcap, hb⟩; have HR := zPB hR; have HC := zPB hcap; clear hR hcap; have X := zPB (X.out.went hb); obtain ⟨x0, x1, x2, x3⟩ := X.out.box; clear hb)
     | (go_at_call 51; refine (ON.out _ _ _ HR.out HC.out).mono ?_; rintro e w3 ⟨rfl, hb⟩; have X := zPB (X.out.went hb); obtain ⟨x0, x1, x2, x3⟩ := X.out.box; clear hb))
    go_ret
    exact ⟨zAL E.out, X.out.below⟩
   | true =>
    rw [h2] at ON
    cases h3 : zAt G with
    | false =>
     have E := zPB (zC8 h0 h1 h2 h3)
     rw [h3] at K
     clear h0 h1 h2 h3
     go_enter Tryz.func30, Tryz.ntmps30
     go_wp2_with (first
      | (go_at_call 49; refine (M.out _ X.out.below).mono ?_; rintro e w1 ⟨rfl, hb⟩; have X := zPB (X.out.went hb); obtain ⟨x0, x1, x2, x3⟩ := X.out.box; clear hb)
      | (go_at_call 50; refine (F.out _ X.out.below).mono ?_; rintro e w1 ⟨rfl, hb⟩; have X := zPB (X.out.went hb); obtain ⟨x0, x1, x2, x3⟩ := X.out.box; clear hb)
      | (go_at_call 52; refine (NA.out _ X.out.below).mono ?_; rintro e w2 ⟨a', c', rfl, hR, hcap, hb⟩; have HR := zPB hR; have HC := zPB hcap; clear hR hcap; have X := zPB (X.out.went hb); obtain ⟨x0, x1, x2, x3⟩ := X.out.box; clear hb)
      | (go_at_call 51; refine (ON.out _ _ _ HR.out HC.out).mono ?_; rintro e w3 ⟨rfl, hb⟩; have X := zPB (X.out.went hb); obtain ⟨x0, x1, x2, x3⟩ := X.out.box; clear hb)
      | (go_at_call 53; refine (K.out _ X.out.below).mono ?_; rintro e w4 ⟨rfl, hb⟩; have X := zPB (X.out.went hb); obtain ⟨x0, x1, x2, x3⟩ := X.out.box; clear hb))
     go_ret
     exact ⟨zAL E.out, X.out.below⟩
    | true =>
     rw [h3] at K
     cases h4 : zAr G with
     | false =>
      have E := zPB (zCt h0 h1 h2 h3 h4)
      rw [h4] at U
      clear h0 h1 h2 h3 h4
      go_enter Tryz.func30, Tryz.ntmps30
      go_wp2_with (first
       | (go_at_call 49; refine (M.out _ X.out.below).mono ?_; rintro e w1 ⟨rfl, hb⟩; have X := zPB (X.out.went hb); obtain ⟨x0, x1, x2, x3⟩ := X.out.box; clear hb)
       | (go_at_call 50; refine (F.out _ X.out.below).mono ?_; rintro e w1 ⟨rfl, hb⟩; have X := zPB (X.out.went hb); obtain ⟨x0, x1, x2, x3⟩ := X.out.box; clear hb)
       | (go_at_call 52; refine (NA.out _ X.out.below).mono ?_; rintro e w2 ⟨a', c', rfl, hR, hcap, hb⟩; have HR := zPB hR; have HC := zPB hcap; clear hR hcap; have X := zPB (X.out.went hb); obtain ⟨x0, x1, x2, x3⟩ := X.out.box; clear hb)
       | (go_at_call 51; refine (ON.out _ _ _ HR.out HC.out).mono ?_; rintro e w3 ⟨rfl, hb⟩; have X := zPB (X.out.went hb); obtain ⟨x0, x1, x2, x3⟩ := X.out.box; clear hb)
       | (go_at_call 53; refine (K.out _ X.out.below).mono ?_; rintro e w4 ⟨rfl, hb⟩; have X := zPB (X.out.went hb); obtain ⟨x0, x1, x2, x3⟩ := X.out.box; clear hb)
       | (go_at_call 54; refine (U.out _ X.out.below).mono ?_; rintro e w5 ⟨rfl, hb⟩; have X := zPB (X.out.went hb); obtain ⟨x0, x1, x2, x3⟩ := X.out.box; clear hb))
      go_ret
      exact ⟨zAL E.out, X.out.below⟩
     | true =>
      rw [h4] at U
      have E0 := zPB (zBj h0 h1 h2 h3 h4)
      have E9 := zPB (zC9 h0 h1 h2 h3 h4)
      clear h0 h1 h2 h3 h4
      go_enter Tryz.func30, Tryz.ntmps30
      go_wp2_with (first
       | (go_at_call 49; refine (M.out _ X.out.below).mono ?_; rintro e w1 ⟨rfl, hb⟩; have X := zPB (X.out.went hb); obtain ⟨x0, x1, x2, x3⟩ := X.out.box; clear hb)
       | (go_at_call 50; refine (F.out _ X.out.below).mono ?_; rintro e w1 ⟨rfl, hb⟩; have X := zPB (X.out.went hb); obtain ⟨x0, x1, x2, x3⟩ := X.out.box; clear hb)
       | (go_at_call 52; refine (NA.out _ X.out.below).mono ?_; rintro e w2 ⟨a', c', rfl, hR, hcap, hb⟩; have HR := zPB hR; have HC := zPB hcap; clear hR hcap; have X := zPB (X.out.went hb); obtain ⟨x0, x1, x2, x3⟩ := X.out.box; clear hb)
       | (go_at_call 51; refine (ON.out _ _ _ HR.out HC.out).mono ?_; rintro e w3 ⟨rfl, hb⟩; have X := zPB (X.out.went hb); obtain ⟨x0, x1, x2, x3⟩ := X.out.box; clear hb)
       | (go_at_call 53; refine (K.out _ X.out.below).mono ?_; rintro e w4 ⟨rfl, hb⟩; have X := zPB (X.out.went hb); obtain ⟨x0, x1, x2, x3⟩ := X.out.box; clear hb)
       | (go_at_call 54; refine (U.out _ X.out.below).mono ?_; rintro e w5 ⟨rfl, hb⟩; have X := zPB (X.out.went hb); obtain ⟨x0, x1, x2, x3⟩ := X.out.box; clear hb))
      have XL := X
      clear X M F K U NA ON HR HC KG
      go_loopw [3] (fun i wr => ∃ j : Nat, j <= G.nons.length /\ i = .int .i64 j /\ (∀ i, i < j -> 0 < (ofL G ((G.terms.length : Int) + 1 + i)).length) /\ Bx w h G wr) (fun i _ => G.nons.length - (intOf i).toNat)
      case atStart => exact ⟨0, Nat.zero_le _, rfl, fun _ h => absurd h (by omega), XL.out⟩
      case round =>
       clear XL
       obtain ⟨j, hj, rfl, hA, hX⟩ := hrel
       have A := zPB hA
       have X := zPB hX
       obtain ⟨x0, x1, x2, x3⟩ := hX.box
       clear hA hX
       by_cases hlt : j < G.nons.length
       ·have NN := zPB (N.out ((G.terms.length : Int) + 1 + j))
        have F3 := zPB (zEM (G := G) (k := j) hlt)
        have F4 := zPB (fun (h0 : 0 < (ofL G ((G.terms.length : Int) + 1 + j)).length) i (hi : i < j + 1) => show 0 < (ofL G ((G.terms.length : Int) + 1 + i)).length by
         by_cases e : i = j
         ·subst e; exact h0
         ·exact A.out i (by omega))
        generalize hL : ofL G ((G.terms.length : Int) + 1 + j) = L at NN F3 F4
        clear hL
        rcases L with _ | ⟨x, l⟩
        ·have FR := zPB (E9.out (F3.out (by simp)))
         clear F3 F4
         go_wp2_with (go_at_call 55; refine (NN.out _ X.out.below).mono ?_; rintro e w2 ⟨a', c', rfl, hr, hn, hb⟩; have X := zPB (X.out.went hb); clear hb hr hn)
         go_ret
         exact ⟨zAL FR.out, X.out.below⟩
        ·have FR := zPB (F4.out (by simp))
         clear F3 F4
         go_wp2_with (go_at_call 55; refine (NN.out _ X.out.below).mono ?_; rintro e w2 ⟨a', c', rfl, hr, hn, hb⟩; have X := zPB (X.out.went hb); clear hb hr hn)
         go_roundw
         case rel => exact ⟨j + 1, by omega, by go_num, FR.out, X.out⟩
         case measure => simp [intOf]; omega
       ·have FR := zPB (E0.out (zFo A.out hlt))
        go_wp2
        go_ret
        exact ⟨zAL FR.out, X.out.below⟩
