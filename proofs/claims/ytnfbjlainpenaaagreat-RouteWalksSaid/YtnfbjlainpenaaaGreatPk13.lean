/- A part of the proof. -/
import Derived.Test.YtnfbjlainpenaaaGreatPk10
import Derived.Test.YtnfbjlainpenaaaGreatPk12
set_option maxHeartbeats 8000000
set_option linter.unusedVariables false
namespace Go.Proofs.YtnfbjlainpenaaaGreat
namespace Gr
open Go.RowKit Go.Maps
theorem zGB {G : Gram} (h : zAv G = false) : G.terms.length <= 120 /\ G.nons.length <= 120 /\ G.rules.length <= 300 := by
 simp only [zAv, Bool.or_eq_false_iff, decide_eq_false_iff_not] at h
 omega
theorem zDK {G : Gram} (h : zAv G = true) : checkN G = 7 := by simp [checkN, h]
theorem zDJ {G : Gram} (h : zAv G = false) (h1 : zBY G = false) : checkN G = 10 := by simp [checkN, h, h1]
theorem zDL {G : Gram} (h : zAv G = false) (h1 : zBY G = true) (h2 : zCL G = false) : checkN G = 8 := by simp [checkN, h, h1, h2]
theorem zCf {G : Gram} (h : zAv G = false) (h1 : zBY G = true) (h2 : zCL G = true) (h3 : zAl G = false) : checkN G = 1 := by simp [checkN, h, h1, h2, h3]
theorem zCT {G : Gram} (h : zAv G = false) (h1 : zBY G = true) (h2 : zCL G = true) (h3 : zAl G = true) (h4 : zAk G = false) : checkN G = 8 := by simp [checkN, h, h1, h2, h3, h4]
theorem zCg {G : Gram} (h : zAv G = false) (h1 : zBY G = true) (h2 : zCL G = true) (h3 : zAl G = true) (h4 : zAk G = true) (h5 : zBd G = false) : checkN G = 9 := by simp [checkN, h, h1, h2, h3, h4, h5]
theorem zBX {G : Gram} (h : zAv G = false) (h1 : zBY G = true) (h2 : zCL G = true) (h3 : zAl G = true) (h4 : zAk G = true) (h5 : zBd G = true) : checkN G = 0 := by simp [checkN, h, h1, h2, h3, h4, h5]
theorem zAz (h : Sh) (G : Gram) (w : World) (k : GAt h G w) :
  Calls Tryz.prog 37 #[gv h G] w (Is (.int .i64 (checkN G)) w) := by
 have X := zNR (Bx.start h G w 25)
 have M := zNR (fun w1 (b : Below w.heap.size w w1) => zKI h G w1 (k.went b))
 have F := zNR (fun w1 (b : Below w.heap.size w w1) => zEm h G w1 (k.went b))
 have O := zNR (fun w1 (b : Below w.heap.size w w1) => zDA h G w1 (k.went b))
 have K := zNR (fun w1 (b : Below w.heap.size w w1) => zCp h G w1 (k.went b))
 have U := zNR (fun w1 (b : Below w.heap.size w w1) => zDB h G w1 (k.went b))
 have KG := zNR k
 clear k
 unfold gv
 cases h0 : zAv G with
 | true =>
  have E := zNR (zDK h0)
  rw [h0] at M
  clear h0
  go_enter Tryz.func37, Tryz.ntmps37
  go_wp2_with (first
   | (go_at_call 60; refine (M.out _ X.out.below).mono ?_; rintro e w1 ⟨rfl, hb⟩; have X := zNR (X.out.went hb); obtain ⟨x0, x1, x2, x3⟩ := X.out.box; clear hb))
  go_ret
  exact ⟨zAH E.out, X.out.below⟩
 | false =>
  rw [h0] at M
  cases h1 : zBY G with
  | false =>
   have E := zNR (zDJ h0 h1)
   rw [h1] at F
   clear h0 h1
   go_enter Tryz.func37, Tryz.ntmps37
   go_wp2_with (first
    | (go_at_call 60; refine (M.out _ X.out.below).mono ?_; rintro e w1 ⟨rfl, hb⟩; have X := zNR (X.out.went hb); obtain ⟨x0, x1, x2, x3⟩ := X.out.box; clear hb)
    | (go_at_call 61; refine (F.out _ X.out.below).mono ?_; rintro e w1 ⟨rfl, hb⟩; have X := zNR (X.out.went hb); obtain ⟨x0, x1, x2, x3⟩ := X.out.box; clear hb))
   go_ret
   exact ⟨zAH E.out, X.out.below⟩
  | true =>
   rw [h1] at F
   cases h2 : zCL G with
   | false =>
    have E := zNR (zDL h0 h1 h2)
    rw [h2] at O
    clear h0 h1 h2
    go_enter Tryz.func37, Tryz.ntmps37
    go_wp2_with (first
     | (go_at_call 60; refine (M.out _ X.out.below).mono ?_; rintro e w1 ⟨rfl, hb⟩; have X := zNR (X.out.went hb); obtain ⟨x0, x1, x2, x3⟩ := X.out.box; clear hb)
     | (go_at_call 61; refine (F.out _ X.out.below).mono ?_; rintro e w1 ⟨rfl, hb⟩; have X := zNR (X.out.went hb); obtain ⟨x0, x1, x2, x3⟩ := X.out.box; clear hb)
     | (go_at_call 62; refine (O.out _ X.out.below).mono ?_; rintro e w1 ⟨rfl, hb⟩; have X := zNR (X.out.went hb); obtain ⟨x0, x1, x2, x3⟩ := X.out.box; clear hb))
    go_ret
    exact ⟨zAH E.out, X.out.below⟩
   | true =>
    rw [h2] at O
    cases h3 : zAl G with
    | false =>
     have E := zNR (zCf h0 h1 h2 h3)
     rw [h3] at K
     clear h0 h1 h2 h3
     go_enter Tryz.func37, Tryz.ntmps37
     go_wp2_with (first
      | (go_at_call 60; refine (M.out _ X.out.below).mono ?_; rintro e w1 ⟨rfl, hb⟩; have X := zNR (X.out.went hb); obtain ⟨x0, x1, x2, x3⟩ := X.out.box; clear hb)
      | (go_at_call 61; refine (F.out _ X.out.below).mono ?_; rintro e w1 ⟨rfl, hb⟩; have X := zNR (X.out.went hb); obtain ⟨x0, x1, x2, x3⟩ := X.out.box; clear hb)
      | (go_at_call 62; refine (O.out _ X.out.below).mono ?_; rintro e w1 ⟨rfl, hb⟩; have X := zNR (X.out.went hb); obtain ⟨x0, x1, x2, x3⟩ := X.out.box; clear hb)
      | (go_at_call 63; refine (K.out _ X.out.below).mono ?_; rintro e w1 ⟨rfl, hb⟩; have X := zNR (X.out.went hb); obtain ⟨x0, x1, x2, x3⟩ := X.out.box; clear hb))
     go_ret
     exact ⟨zAH E.out, X.out.below⟩
    | true =>
     rw [h3] at K
     cases h4 : zAk G with
     | false =>
      have E := zNR (zCT h0 h1 h2 h3 h4)
      rw [h4] at U
      clear h0 h1 h2 h3 h4
      go_enter Tryz.func37, Tryz.ntmps37
      go_wp2_with (first
       | (go_at_call 60; refine (M.out _ X.out.below).mono ?_; rintro e w1 ⟨rfl, hb⟩; have X := zNR (X.out.went hb); obtain ⟨x0, x1, x2, x3⟩ := X.out.box; clear hb)
       | (go_at_call 61; refine (F.out _ X.out.below).mono ?_; rintro e w1 ⟨rfl, hb⟩; have X := zNR (X.out.went hb); obtain ⟨x0, x1, x2, x3⟩ := X.out.box; clear hb)
       | (go_at_call 62; refine (O.out _ X.out.below).mono ?_; rintro e w1 ⟨rfl, hb⟩; have X := zNR (X.out.went hb); obtain ⟨x0, x1, x2, x3⟩ := X.out.box; clear hb)
       | (go_at_call 63; refine (K.out _ X.out.below).mono ?_; rintro e w1 ⟨rfl, hb⟩; have X := zNR (X.out.went hb); obtain ⟨x0, x1, x2, x3⟩ := X.out.box; clear hb)
       | (go_at_call 64; refine (U.out _ X.out.below).mono ?_; rintro e w1 ⟨rfl, hb⟩; have X := zNR (X.out.went hb); obtain ⟨x0, x1, x2, x3⟩ := X.out.box; clear hb))
      go_ret
      exact ⟨zAH E.out, X.out.below⟩
     | true =>
      rw [h4] at U
      have hr3 := (zGB h0).2.2
      have R := zNR (fun w1 (b : Below w.heap.size w w1) => zFj h G w1 (KG.out.went b) (by omega))
      cases h5 : zBd G with
      | false =>
       have E := zNR (zCg h0 h1 h2 h3 h4 h5)
       rw [h5] at R
       clear h0 h1 h2 h3 h4 h5
       go_enter Tryz.func37, Tryz.ntmps37
       go_wp2_with (first
        | (go_at_call 60; refine (M.out _ X.out.below).mono ?_; rintro e w1 ⟨rfl, hb⟩; have X := zNR (X.out.went hb); obtain ⟨x0, x1, x2, x3⟩ := X.out.box; clear hb)
        | (go_at_call 61; refine (F.out _ X.out.below).mono ?_; rintro e w1 ⟨rfl, hb⟩; have X := zNR (X.out.went hb); obtain ⟨x0, x1, x2, x3⟩ := X.out.box; clear hb)
        | (go_at_call 62; refine (O.out _ X.out.below).mono ?_; rintro e w1 ⟨rfl, hb⟩; have X := zNR (X.out.went hb); obtain ⟨x0, x1, x2, x3⟩ := X.out.box; clear hb)
        | (go_at_call 63; refine (K.out _ X.out.below).mono ?_; rintro e w1 ⟨rfl, hb⟩; have X := zNR (X.out.went hb); obtain ⟨x0, x1, x2, x3⟩ := X.out.box; clear hb)
        | (go_at_call 64; refine (U.out _ X.out.below).mono ?_; rintro e w1 ⟨rfl, hb⟩; have X := zNR (X.out.went hb); obtain ⟨x0, x1, x2, x3⟩ := X.out.box; clear hb)
        | (go_at_call 65; refine (R.out _ X.out.below).mono ?_; rintro e w1 ⟨rfl, hb⟩; have X := zNR (X.out.went hb); obtain ⟨x0, x1, x2, x3⟩ := X.out.box; clear hb))
       go_ret
       exact ⟨zAH E.out, X.out.below⟩
      | true =>
       rw [h5] at R
       have E := zNR (zBX h0 h1 h2 h3 h4 h5)
       clear h0 h1 h2 h3 h4 h5
       go_enter Tryz.func37, Tryz.ntmps37
       go_wp2_with (first
        | (go_at_call 60; refine (M.out _ X.out.below).mono ?_; rintro e w1 ⟨rfl, hb⟩; have X := zNR (X.out.went hb); obtain ⟨x0, x1, x2, x3⟩ := X.out.box; clear hb)
        | (go_at_call 61; refine (F.out _ X.out.below).mono ?_; rintro e w1 ⟨rfl, hb⟩; have X := zNR (X.out.went hb); obtain ⟨x0, x1, x2, x3⟩ := X.out.box; clear hb)
        | (go_at_call 62; refine (O.out _ X.out.below).mono ?_; rintro e w1 ⟨rfl, hb⟩; have X := zNR (X.out.went hb); obtain ⟨x0, x1, x2, x3⟩ := X.out.box; clear hb)
        | (go_at_call 63; refine (K.out _ X.out.below).mono ?_; rintro e w1 ⟨rfl, hb⟩; have X := zNR (X.out.went hb); obtain ⟨x0, x1, x2, x3⟩ := X.out.box; clear hb)
        | (go_at_call 64; refine (U.out _ X.out.below).mono ?_; rintro e w1 ⟨rfl, hb⟩; have X := zNR (X.out.went hb); obtain ⟨x0, x1, x2, x3⟩ := X.out.box; clear hb)
        | (go_at_call 65; refine (R.out _ X.out.below).mono ?_; rintro e w1 ⟨rfl, hb⟩; have X := zNR (X.out.went hb); obtain ⟨x0, x1, x2, x3⟩ := X.out.box; clear hb))
       go_ret
       exact ⟨zAH E.out, X.out.below⟩
theorem zL4 (G : Gram) : zCL G = decide (names G).Nodup := rfl
theorem zHH (h : Sh) (G : Gram) (w : World) (k : GAt h G w) :
  Calls Tryz.prog 30 #[gv h G] w (Is (.int .i64 (checkN G)) w) := by
 have X := zNR (Bx.start h G w 25)
 have M := zNR (fun w1 (b : Below w.heap.size w w1) => zI8 h G w1 (k.went b))
 have F := zNR (fun w1 (b : Below w.heap.size w w1) => zI5 h G w1 (k.went b))
 have K := zNR (fun w1 (b : Below w.heap.size w w1) => zHK h G w1 (k.went b))
 have U := zNR (fun w1 (b : Below w.heap.size w w1) => zFe h G w1 (k.went b))
 have KG := zNR k
 clear k
 unfold gv
 cases h0 : zAv G with
 | true =>
  have E := zNR (zDK h0)
  rw [h0] at M
  clear h0
  go_enter Tryz.func30, Tryz.ntmps30
  go_wp2_with (go_at_call 49; refine (M.out _ X.out.below).mono ?_; rintro e w1 ⟨rfl, hb⟩; have X := zNR (X.out.went hb); obtain ⟨x0, x1, x2, x3⟩ := X.out.box; clear hb)
  go_ret
  exact ⟨zAH E.out, X.out.below⟩
 | false =>
  rw [h0] at M
  obtain ⟨ht, hn, hr⟩ := zGB h0
  have NA := zNR (fun w1 (b : Below w.heap.size w w1) => zIm h G w1 (KG.out.went b) (by omega))
  have N := zNR (fun s w1 (b : Below w.heap.size w w1) => zFc h G s w1 (KG.out.went b) (by omega))
  have hln : (names G).length <= 240 := by rw [zAT]; unfold top; omega
  have ON := zNR (fun a c w1 (hR : Sep.Reads a ((names G).map .string) w1) (hc : (names G).length <= c) => zKV (names G) a c w1 hR hc (by omega))
  cases h1 : zBY G with
  | false =>
   have E := zNR (zDJ h0 h1)
   rw [h1] at F
   clear h0 h1
   go_enter Tryz.func30, Tryz.ntmps30
   go_wp2_with (first
    | (go_at_call 49; refine (M.out _ X.out.below).mono ?_; rintro e w1 ⟨rfl, hb⟩; have X := zNR (X.out.went hb); obtain ⟨x0, x1, x2, x3⟩ := X.out.box; clear hb)
    | (go_at_call 50; refine (F.out _ X.out.below).mono ?_; rintro e w1 ⟨rfl, hb⟩; have X := zNR (X.out.went hb); obtain ⟨x0, x1, x2, x3⟩ := X.out.box; clear hb))
   go_ret
   exact ⟨zAH E.out, X.out.below⟩
  | true =>
   rw [h1] at F
   rw [← zL4] at ON
   cases h2 : zCL G with
   | false =>
    have E := zNR (zDL h0 h1 h2)
    rw [h2] at ON
    clear h0 h1 h2
    go_enter Tryz.func30, Tryz.ntmps30
    go_wp2_with (first
     | (go_at_call 49; refine (M.out _ X.out.below).mono ?_; rintro e w1 ⟨rfl, hb⟩; have X := zNR (X.out.went hb); obtain ⟨x0, x1, x2, x3⟩ := X.out.box; clear hb)
     | (go_at_call 50; refine (F.out _ X.out.below).mono ?_; rintro e w1 ⟨rfl, hb⟩; have X := zNR (X.out.went hb); obtain ⟨x0, x1, x2, x3⟩ := X.out.box; clear hb)
     | (go_at_call 52; refine (NA.out _ X.out.below).mono ?_; rintro e w2 ⟨a', c', rfl, hR, hcap, hb⟩; have HR := zNR hR; have HC := zNR hcap; clear hR hcap; have X := zNR (X.out.went hb); obtain ⟨x0, x1, x2, x3⟩ := X.out.box; clear hb)
     | (go_at_call 51; refine (ON.out _ _ _ HR.out HC.out).mono ?_; rintro e w3 ⟨rfl, hb⟩; have X := zNR (X.out.went hb); obtain ⟨x0, x1, x2, x3⟩ := X.out.box; clear hb))
    go_ret
    exact ⟨zAH E.out, X.out.below⟩
   | true =>
    rw [h2] at ON
    cases h3 : zAl G with
    | false =>
     have E := zNR (zCf h0 h1 h2 h3)
     rw [h3] at K
     clear h0 h1 h2 h3
     go_enter Tryz.func30, Tryz.ntmps30
     go_wp2_with (first
      | (go_at_call 49; refine (M.out _ X.out.below).mono ?_; rintro e w1 ⟨rfl, hb⟩; have X := zNR (X.out.went hb); obtain ⟨x0, x1, x2, x3⟩ := X.out.box; clear hb)
      | (go_at_call 50; refine (F.out _ X.out.below).mono ?_; rintro e w1 ⟨rfl, hb⟩; have X := zNR (X.out.went hb); obtain ⟨x0, x1, x2, x3⟩ := X.out.box; clear hb)
      | (go_at_call 52; refine (NA.out _ X.out.below).mono ?_; rintro e w2 ⟨a', c', rfl, hR, hcap, hb⟩; have HR := zNR hR; have HC := zNR hcap; clear hR hcap; have X := zNR (X.out.went hb); obtain ⟨x0, x1, x2, x3⟩ := X.out.box; clear hb)
      | (go_at_call 51; refine (ON.out _ _ _ HR.out HC.out).mono ?_; rintro e w3 ⟨rfl, hb⟩; have X := zNR (X.out.went hb); obtain ⟨x0, x1, x2, x3⟩ := X.out.box; clear hb)
      | (go_at_call 53; refine (K.out _ X.out.below).mono ?_; rintro e w4 ⟨rfl, hb⟩; have X := zNR (X.out.went hb); obtain ⟨x0, x1, x2, x3⟩ := X.out.box; clear hb))
     go_ret
     exact ⟨zAH E.out, X.out.below⟩
    | true =>
     rw [h3] at K
     cases h4 : zAk G with
     | false =>
      have E := zNR (zCT h0 h1 h2 h3 h4)
      rw [h4] at U
      clear h0 h1 h2 h3 h4
      go_enter Tryz.func30, Tryz.ntmps30
      go_wp2_with (first
       | (go_at_call 49; refine (M.out _ X.out.below).mono ?_; rintro e w1 ⟨rfl, hb⟩; have X := zNR (X.out.went hb); obtain ⟨x0, x1, x2, x3⟩ := X.out.box; clear hb)
       | (go_at_call 50; refine (F.out _ X.out.below).mono ?_; rintro e w1 ⟨rfl, hb⟩; have X := zNR (X.out.went hb); obtain ⟨x0, x1, x2, x3⟩ := X.out.box; clear hb)
       | (go_at_call 52; refine (NA.out _ X.out.below).mono ?_; rintro e w2 ⟨a', c', rfl, hR, hcap, hb⟩; have HR := zNR hR; have HC := zNR hcap; clear hR hcap; have X := zNR (X.out.went hb); obtain ⟨x0, x1, x2, x3⟩ := X.out.box; clear hb)
       | (go_at_call 51; refine (ON.out _ _ _ HR.out HC.out).mono ?_; rintro e w3 ⟨rfl, hb⟩; have X := zNR (X.out.went hb); obtain ⟨x0, x1, x2, x3⟩ := X.out.box; clear hb)
       | (go_at_call 53; refine (K.out _ X.out.below).mono ?_; rintro e w4 ⟨rfl, hb⟩; have X := zNR (X.out.went hb); obtain ⟨x0, x1, x2, x3⟩ := X.out.box; clear hb)
       | (go_at_call 54; refine (U.out _ X.out.below).mono ?_; rintro e w5 ⟨rfl, hb⟩; have X := zNR (X.out.went hb); obtain ⟨x0, x1, x2, x3⟩ := X.out.box; clear hb))
      go_ret
      exact ⟨zAH E.out, X.out.below⟩
     | true =>
      rw [h4] at U
      have E0 := zNR (zBX h0 h1 h2 h3 h4)
      have E9 := zNR (zCg h0 h1 h2 h3 h4)
      clear h0 h1 h2 h3 h4
      go_enter Tryz.func30, Tryz.ntmps30
      go_wp2_with (first
       | (go_at_call 49; refine (M.out _ X.out.below).mono ?_; rintro e w1 ⟨rfl, hb⟩; have X := zNR (X.out.went hb); obtain ⟨x0, x1, x2, x3⟩ := X.out.box; clear hb)
       | (go_at_call 50; refine (F.out _ X.out.below).mono ?_; rintro e w1 ⟨rfl, hb⟩; have X := zNR (X.out.went hb); obtain ⟨x0, x1, x2, x3⟩ := X.out.box; clear hb)
       | (go_at_call 52; refine (NA.out _ X.out.below).mono ?_; rintro e w2 ⟨a', c', rfl, hR, hcap, hb⟩; have HR := zNR hR; have HC := zNR hcap; clear hR hcap; have X := zNR (X.out.went hb); obtain ⟨x0, x1, x2, x3⟩ := X.out.box; clear hb)
       | (go_at_call 51; refine (ON.out _ _ _ HR.out HC.out).mono ?_; rintro e w3 ⟨rfl, hb⟩; have X := zNR (X.out.went hb); obtain ⟨x0, x1, x2, x3⟩ := X.out.box; clear hb)
       | (go_at_call 53; refine (K.out _ X.out.below).mono ?_; rintro e w4 ⟨rfl, hb⟩; have X := zNR (X.out.went hb); obtain ⟨x0, x1, x2, x3⟩ := X.out.box; clear hb)
       | (go_at_call 54; refine (U.out _ X.out.below).mono ?_; rintro e w5 ⟨rfl, hb⟩; have X := zNR (X.out.went hb); obtain ⟨x0, x1, x2, x3⟩ := X.out.box; clear hb))
      have XL := X
      clear X M F K U NA ON HR HC KG
      go_loopw [3] (fun i wr => ∃ j : Nat, j <= G.nons.length /\ i = .int .i64 j /\ (∀ i, i < j -> 0 < (ofL G ((G.terms.length : Int) + 1 + i)).length) /\ Bx w h G wr) (fun i _ => G.nons.length - (intOf i).toNat)
      case atStart => exact ⟨0, Nat.zero_le _, rfl, fun _ h => absurd h (by omega), XL.out⟩
      case round =>
       clear XL
       obtain ⟨j, hj, rfl, hA, hX⟩ := hrel
       have A := zNR hA
       have X := zNR hX
       obtain ⟨x0, x1, x2, x3⟩ := hX.box
       clear hA hX
       by_cases hlt : j < G.nons.length
       ·have NN := zNR (N.out ((G.terms.length : Int) + 1 + j))
        have F3 := zNR (zDg (G := G) (k := j) hlt)
        have F4 := zNR (fun (h0 : 0 < (ofL G ((G.terms.length : Int) + 1 + j)).length) i (hi : i < j + 1) => show 0 < (ofL G ((G.terms.length : Int) + 1 + i)).length by
         by_cases e : i = j
         ·subst e; exact h0
         ·exact A.out i (by omega))
        generalize hL : ofL G ((G.terms.length : Int) + 1 + j) = L at NN F3 F4
        clear hL
        rcases L with _ | ⟨x, l⟩
        ·have FR := zNR (E9.out (F3.out (by simp)))
         clear F3 F4
         go_wp2_with (go_at_call 55; refine (NN.out _ X.out.below).mono ?_; rintro e w2 ⟨a', c', rfl, hr, hn, hb⟩; have X := zNR (X.out.went hb); clear hb hr hn)
         go_ret
         exact ⟨zAH FR.out, X.out.below⟩
        ·have FR := zNR (F4.out (by simp))
         clear F3 F4
         go_wp2_with (go_at_call 55; refine (NN.out _ X.out.below).mono ?_; rintro e w2 ⟨a', c', rfl, hr, hn, hb⟩; have X := zNR (X.out.went hb); clear hb hr hn)
         go_roundw
         case rel => exact ⟨j + 1, by omega, by go_num, FR.out, X.out⟩
         case measure => simp [intOf]; omega
       ·have FR := zNR (E0.out (zEx A.out hlt))
        go_wp2
        go_ret
        exact ⟨zAH FR.out, X.out.below⟩
