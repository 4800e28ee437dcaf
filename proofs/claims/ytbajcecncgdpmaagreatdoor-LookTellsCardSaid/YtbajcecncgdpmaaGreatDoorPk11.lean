/- A part of the proof. -/
import Derived.Test.YtbajcecncgdpmaaGreatDoorPk08
import Derived.Test.YtbajcecncgdpmaaGreatDoorPk10
set_option maxHeartbeats 8000000
set_option linter.unusedVariables false
namespace Go.Proofs.YtbajcecncgdpmaaGreatDoor
namespace Gr
open Go.RowKit Go.Maps
theorem zIl {G : Gram} (h : zBL G = false) : G.terms.length <= 120 /\ G.nons.length <= 120 /\ G.rules.length <= 300 := by
 simp only [zBL, Bool.or_eq_false_iff, decide_eq_false_iff_not] at h
 omega
theorem zFZ {G : Gram} (h : zBL G = true) : checkN G = 7 := by simp [checkN, h]
theorem zFR {G : Gram} (h : zBL G = false) (h1 : zCl G = false) : checkN G = 10 := by simp [checkN, h, h1]
theorem zFQ {G : Gram} (h : zBL G = false) (h1 : zCl G = true) (h2 : zDa G = false) : checkN G = 8 := by simp [checkN, h, h1, h2]
theorem zEX {G : Gram} (h : zBL G = false) (h1 : zCl G = true) (h2 : zDa G = true) (h3 : zAX G = false) : checkN G = 1 := by simp [checkN, h, h1, h2, h3]
theorem zDo {G : Gram} (h : zBL G = false) (h1 : zCl G = true) (h2 : zDa G = true) (h3 : zAX G = true) (h4 : zA6 G = false) : checkN G = 8 := by simp [checkN, h, h1, h2, h3, h4]
theorem zEV {G : Gram} (h : zBL G = false) (h1 : zCl G = true) (h2 : zDa G = true) (h3 : zAX G = true) (h4 : zA6 G = true) (h5 : zCN G = false) : checkN G = 9 := by simp [checkN, h, h1, h2, h3, h4, h5]
theorem zDO {G : Gram} (h : zBL G = false) (h1 : zCl G = true) (h2 : zDa G = true) (h3 : zAX G = true) (h4 : zA6 G = true) (h5 : zCN G = true) : checkN G = 0 := by simp [checkN, h, h1, h2, h3, h4, h5]
theorem zBZ (h : Sh) (G : Gram) (w : World) (k : GAt h G w) :
  Calls Tryz.prog 39 #[gv h G] w (Is (.int .i64 (checkN G)) w) := by
 have X := zUB (Bx.start h G w 25)
 have M := zUB (fun w1 (b : Below w.heap.size w w1) => zPw h G w1 (k.went b))
 have F := zUB (fun w1 (b : Below w.heap.size w w1) => zHZ h G w1 (k.went b))
 have O := zUB (fun w1 (b : Below w.heap.size w w1) => zE3 h G w1 (k.went b))
 have K := zUB (fun w1 (b : Below w.heap.size w w1) => zER h G w1 (k.went b))
 have U := zUB (fun w1 (b : Below w.heap.size w w1) => zEx h G w1 (k.went b))
 have KG := zUB k
 clear k
 unfold gv
 cases h0 : zBL G with
 | true =>
  have E := zUB (zFZ h0)
  rw [h0] at M
  clear h0
  go_enter Tryz.func39, Tryz.ntmps39
  go_wp2_with (first
   | (go_at_call 71; refine (M.out _ X.out.below).mono ?_; rintro e w1 ⟨rfl, hb⟩; have X := zUB (X.out.went hb); obtain ⟨x0, x1, x2, x3⟩ := X.out.box; clear hb))
  go_ret
  exact ⟨zAU E.out, X.out.below⟩
 | false =>
  rw [h0] at M
  cases h1 : zCl G with
  | false =>
   have E := zUB (zFR h0 h1)
   rw [h1] at F
   clear h0 h1
   go_enter Tryz.func39, Tryz.ntmps39
   go_wp2_with (first
    | (go_at_call 71; refine (M.out _ X.out.below).mono ?_; rintro e w1 ⟨rfl, hb⟩; have X := zUB (X.out.went hb); obtain ⟨x0, x1, x2, x3⟩ := X.out.box; clear hb)
    | (go_at_call 72; refine (F.out _ X.out.below).mono ?_; rintro e w1 ⟨rfl, hb⟩; have X := zUB (X.out.went hb); obtain ⟨x0, x1, x2, x3⟩ := X.out.box; clear hb))
   go_ret
   exact ⟨zAU E.out, X.out.below⟩
  | true =>
   rw [h1] at F
   cases h2 : zDa G with
   | false =>
    have E := zUB (zFQ h0 h1 h2)
    rw [h2] at O
    clear h0 h1 h2
    go_enter Tryz.func39, Tryz.ntmps39
    go_wp2_with (first
     | (go_at_call 71; refine (M.out _ X.out.below).mono ?_; rintro e w1 ⟨rfl, hb⟩; have X := zUB (X.out.went hb); obtain ⟨x0, x1, x2, x3⟩ := X.out.box; clear hb)
     | (go_at_call 72; refine (F.out _ X.out.below).mono ?_; rintro e w1 ⟨rfl, hb⟩; have X := zUB (X.out.went hb); obtain ⟨x0, x1, x2, x3⟩ := X.out.box; clear hb)
     | (go_at_call 73; refine (O.out _ X.out.below).mono ?_; rintro e w1 ⟨rfl, hb⟩; have X := zUB (X.out.went hb); obtain ⟨x0, x1, x2, x3⟩ := X.out.box; clear hb))
    go_ret
    exact ⟨zAU E.out, X.out.below⟩
   | true =>
    rw [h2] at O
    cases h3 : zAX G with
    | false =>
     have E := zUB (zEX h0 h1 h2 h3)
     rw [h3] at K
     clear h0 h1 h2 h3
     go_enter Tryz.func39, Tryz.ntmps39
     go_wp2_with (first
      | (go_at_call 71; refine (M.out _ X.out.below).mono ?_; rintro e w1 ⟨rfl, hb⟩; have X := zUB (X.out.went hb); obtain ⟨x0, x1, x2, x3⟩ := X.out.box; clear hb)
      | (go_at_call 72; refine (F.out _ X.out.below).mono ?_; rintro e w1 ⟨rfl, hb⟩; have X := zUB (X.out.went hb); obtain ⟨x0, x1, x2, x3⟩ := X.out.box; clear hb)
      | (go_at_call 73; refine (O.out _ X.out.below).mono ?_; rintro e w1 ⟨rfl, hb⟩; have X := zUB (X.out.went hb); obtain ⟨x0, x1, x2, x3⟩ := X.out.box; clear hb)
      | (go_at_call 74; refine (K.out _ X.out.below).mono ?_; rintro e w1 ⟨rfl, hb⟩; have X := zUB (X.out.went hb); obtain ⟨x0, x1, x2, x3⟩ := X.out.box; clear hb))
     go_ret
     exact ⟨zAU E.out, X.out.below⟩
    | true =>
     rw [h3] at K
     cases h4 : zA6 G with
     | false =>
      have E := zUB (zDo h0 h1 h2 h3 h4)
      rw [h4] at U
      clear h0 h1 h2 h3 h4
      go_enter Tryz.func39, Tryz.ntmps39
      go_wp2_with (first
       | (go_at_call 71; refine (M.out _ X.out.below).mono ?_; rintro e w1 ⟨rfl, hb⟩; have X := zUB (X.out.went hb); obtain ⟨x0, x1, x2, x3⟩ := X.out.box; clear hb)
       | (go_at_call 72; refine (F.out _ X.out.below).mono ?_; rintro e w1 ⟨rfl, hb⟩; have X := zUB (X.out.went hb); obtain ⟨x0, x1, x2, x3⟩ := X.out.box; clear hb)
       | (go_at_call 73; refine (O.out _ X.out.below).mono ?_; rintro e w1 ⟨rfl, hb⟩; have X := zUB (X.out.went hb); obtain ⟨x0, x1, x2, x3⟩ := X.out.box; clear hb)
       | (go_at_call 74; refine (K.out _ X.out.below).mono ?_; rintro e w1 ⟨rfl, hb⟩; have X := zUB (X.out.went hb); obtain ⟨x0, x1, x2, x3⟩ := X.out.box; clear hb)
       | (go_at_call 75; refine (U.out _ X.out.below).mono ?_; rintro e w1 ⟨rfl, hb⟩; have X := zUB (X.out.went hb); obtain ⟨x0, x1, x2, x3⟩ := X.out.box; clear hb))
      go_ret
      exact ⟨zAU E.out, X.out.below⟩
     | true =>
      rw [h4] at U
      have hr3 := (zIl h0).2.2
      have R := zUB (fun w1 (b : Below w.heap.size w w1) => zHu h G w1 (KG.out.went b) (by omega))
      cases h5 : zCN G with
      | false =>
       have E := zUB (zEV h0 h1 h2 h3 h4 h5)
       rw [h5] at R
       clear h0 h1 h2 h3 h4 h5
       go_enter Tryz.func39, Tryz.ntmps39
       go_wp2_with (first
        | (go_at_call 71; refine (M.out _ X.out.below).mono ?_; rintro e w1 ⟨rfl, hb⟩; have X := zUB (X.out.went hb); obtain ⟨x0, x1, x2, x3⟩ := X.out.box; clear hb)
        | (go_at_call 72; refine (F.out _ X.out.below).mono ?_; rintro e w1 ⟨rfl, hb⟩; have X := zUB (X.out.went hb); obtain ⟨x0, x1, x2, x3⟩ := X.out.box; clear hb)
        | (go_at_call 73; refine (O.out _ X.out.below).mono ?_; rintro e w1 ⟨rfl, hb⟩; have X := zUB (X.out.went hb); obtain ⟨x0, x1, x2, x3⟩ := X.out.box; clear hb)
        | (go_at_call 74; refine (K.out _ X.out.below).mono ?_; rintro e w1 ⟨rfl, hb⟩; have X := zUB (X.out.went hb); obtain ⟨x0, x1, x2, x3⟩ := X.out.box; clear hb)
        | (go_at_call 75; refine (U.out _ X.out.below).mono ?_; rintro e w1 ⟨rfl, hb⟩; have X := zUB (X.out.went hb); obtain ⟨x0, x1, x2, x3⟩ := X.out.box; clear hb)
        | (go_at_call 76; refine (R.out _ X.out.below).mono ?_; rintro e w1 ⟨rfl, hb⟩; have X := zUB (X.out.went hb); obtain ⟨x0, x1, x2, x3⟩ := X.out.box; clear hb))
       go_ret
       exact ⟨zAU E.out, X.out.below⟩
      | true =>
       rw [h5] at R
       have E := zUB (zDO h0 h1 h2 h3 h4 h5)
       clear h0 h1 h2 h3 h4 h5
       go_enter Tryz.func39, Tryz.ntmps39
       go_wp2_with (first
        | (go_at_call 71; refine (M.out _ X.out.below).mono ?_; rintro e w1 ⟨rfl, hb⟩; have X := zUB (X.out.went hb); obtain ⟨x0, x1, x2, x3⟩ := X.out.box; clear hb)
        | (go_at_call 72; refine (F.out _ X.out.below).mono ?_; rintro e w1 ⟨rfl, hb⟩; have X := zUB (X.out.went hb); obtain ⟨x0, x1, x2, x3⟩ := X.out.box; clear hb)
        | (go_at_call 73; refine (O.out _ X.out.below).mono ?_; rintro e w1 ⟨rfl, hb⟩; have X := zUB (X.out.went hb); obtain ⟨x0, x1, x2, x3⟩ := X.out.box; clear hb)
        | (go_at_call 74; refine (K.out _ X.out.below).mono ?_; rintro e w1 ⟨rfl, hb⟩; have X := zUB (X.out.went hb); obtain ⟨x0, x1, x2, x3⟩ := X.out.box; clear hb)
        | (go_at_call 75; refine (U.out _ X.out.below).mono ?_; rintro e w1 ⟨rfl, hb⟩; have X := zUB (X.out.went hb); obtain ⟨x0, x1, x2, x3⟩ := X.out.box; clear hb)
        | (go_at_call 76; refine (R.out _ X.out.below).mono ?_; rintro e w1 ⟨rfl, hb⟩; have X := zUB (X.out.went hb); obtain ⟨x0, x1, x2, x3⟩ := X.out.box; clear hb))
       go_ret
       exact ⟨zAU E.out, X.out.below⟩
theorem zQS (G : Gram) : zDa G = decide (names G).Nodup := rfl
theorem zFC (h : Sh) (G : Gram) (w : World) (k : GAt h G w) :
  Calls Tryz.prog 30 #[gv h G] w (Is (.int .i64 (checkN G)) w) := by
 have X := zUB (Bx.start h G w 25)
 have M := zUB (fun w1 (b : Below w.heap.size w w1) => zLO h G w1 (k.went b))
 have F := zUB (fun w1 (b : Below w.heap.size w w1) => zLG h G w1 (k.went b))
 have K := zUB (fun w1 (b : Below w.heap.size w w1) => zJb h G w1 (k.went b))
 have U := zUB (fun w1 (b : Below w.heap.size w w1) => zH6 h G w1 (k.went b))
 have KG := zUB k
 clear k
 unfold gv
 cases h0 : zBL G with
 | true =>
  have E := zUB (zFZ h0)
  rw [h0] at M
  clear h0
  go_enter Tryz.func30, Tryz.ntmps30
  go_wp2_with (go_at_call 65; refine (M.out _ X.out.below).mono ?_; rintro e w1 ⟨rfl, hb⟩; have X := zUB (X.out.went hb); obtain ⟨x0, x1, x2, x3⟩ := X.out.box; clear hb)
  go_ret
  exact ⟨zAU E.out, X.out.below⟩
 | false =>
  rw [h0] at M
  obtain ⟨ht, hn, hr⟩ := zIl h0
  have NA := zUB (fun w1 (b : Below w.heap.size w w1) => zL1 h G w1 (KG.out.went b) (by omega))
  have N := zUB (fun s w1 (b : Below w.heap.size w w1) => zDY h G s w1 (KG.out.went b) (by omega))
  have hln : (names G).length <= 240 := by rw [zAn]; unfold top; omega
  have ON := zUB (fun a c w1 (hR : Sep.Reads a ((names G).map .string) w1) (hc : (names G).length <= c) => zOm (names G) a c w1 hR hc (by omega))
  cases h1 : zCl G with
  | false =>
   have E := zUB (zFR h0 h1)
   rw [h1] at F
   clear h0 h1
   go_enter Tryz.func30, Tryz.ntmps30
   go_wp2_with (first
    | (go_at_call 65; refine (M.out _ X.out.below).mono ?_; rintro e w1 ⟨rfl, hb⟩; have X := zUB (X.out.went hb); obtain ⟨x0, x1, x2, x3⟩ := X.out.box; clear hb)
    | (go_at_call 66; refine (F.out _ X.out.below).mono ?_; rintro e w1 ⟨rfl, hb⟩; have X := zUB (X.out.went hb); obtain ⟨x0, x1, x2, x3⟩ := X.out.box; clear hb))
   go_ret
   exact ⟨zAU E.out, X.out.below⟩
  | true =>
   rw [h1] at F
   rw [← zQS] at ON
   cases h2 : zDa G with
   | false =>
    have E := zUB (zFQ h0 h1 h2)
    rw [h2] at ON
    clear h0 h1 h2
    go_enter Tryz.func30, Tryz.ntmps30
    go_wp2_with (first
     | (go_at_call 65; refine (M.out _ X.out.below).mono ?_; rintro e w1 ⟨rfl, hb⟩; have X := zUB (X.out.went hb); obtain ⟨x0, x1, x2, x3⟩ := X.out.box; clear hb)
     | (go_at_call 66; refine (F.out _ X.out.below).mono ?_; rintro e w1 ⟨rfl, hb⟩; have X := zUB (X.out.went hb); obtain ⟨x0, x1, x2, x3⟩ := X.out.box; clear hb)
     | (go_at_call 68; refine (NA.out _ X.out.below).mono ?_; rintro e w2 ⟨a', c', rfl, hR, hcap, hb⟩; have HR := zUB hR; have HC := zUB hcap; clear hR hcap; have X := zUB (X.out.went hb); obtain ⟨x0, x1, x2, x3⟩ := X.out.box; clear hb)
     | (go_at_call 67; refine (ON.out _ _ _ HR.out HC.out).mono ?_; rintro e w3 ⟨rfl, hb⟩; have X := zUB (X.out.went hb); obtain ⟨x0, x1, x2, x3⟩ := X.out.box; clear hb))
    go_ret
    exact ⟨zAU E.out, X.out.below⟩
   | true =>
    rw [h2] at ON
    cases h3 : zAX G with
    | false =>
     have E := zUB (zEX h0 h1 h2 h3)
     rw [h3] at K
     clear h0 h1 h2 h3
     go_enter Tryz.func30, Tryz.ntmps30
     go_wp2_with (first
      | (go_at_call 65; refine (M.out _ X.out.below).mono ?_; rintro e w1 ⟨rfl, hb⟩; have X := zUB (X.out.went hb); obtain ⟨x0, x1, x2, x3⟩ := X.out.box; clear hb)
      | (go_at_call 66; refine (F.out _ X.out.below).mono ?_; rintro e w1 ⟨rfl, hb⟩; have X := zUB (X.out.went hb); obtain ⟨x0, x1, x2, x3⟩ := X.out.box; clear hb)
      | (go_at_call 68; refine (NA.out _ X.out.below).mono ?_; rintro e w2 ⟨a', c', rfl, hR, hcap, hb⟩; have HR := zUB hR; have HC := zUB hcap; clear hR hcap; have X := zUB (X.out.went hb); obtain ⟨x0, x1, x2, x3⟩ := X.out.box; clear hb)
      | (go_at_call 67; refine (ON.out _ _ _ HR.out HC.out).mono ?_; rintro e w3 ⟨rfl, hb⟩; have X := zUB (X.out.went hb); obtain ⟨x0, x1, x2, x3⟩ := X.out.box; clear hb)
      | (go_at_call 69; refine (K.out _ X.out.below).mono ?_; rintro e w4 ⟨rfl, hb⟩; have X := zUB (X.out.went hb); obtain ⟨x0, x1, x2, x3⟩ := X.out.box; clear hb))
     go_ret
     exact ⟨zAU E.out, X.out.below⟩
    | true =>
     rw [h3] at K
     cases h4 : zA6 G with
     | false =>
      have E := zUB (zDo h0 h1 h2 h3 h4)
      rw [h4] at U
      clear h0 h1 h2 h3 h4
      go_enter Tryz.func30, Tryz.ntmps30
      go_wp2_with (first
       | (go_at_call 65; refine (M.out _ X.out.below).mono ?_; rintro e w1 ⟨rfl, hb⟩; have X := zUB (X.out.went hb); obtain ⟨x0, x1, x2, x3⟩ := X.out.box; clear hb)
       | (go_at_call 66; refine (F.out _ X.out.below).mono ?_; rintro e w1 ⟨rfl, hb⟩; have X := zUB (X.out.went hb); obtain ⟨x0, x1, x2, x3⟩ := X.out.box; clear hb)
       | (go_at_call 68; refine (NA.out _ X.out.below).mono ?_; rintro e w2 ⟨a', c', rfl, hR, hcap, hb⟩; have HR := zUB hR; have HC := zUB hcap; clear hR hcap; have X := zUB (X.out.went hb); obtain ⟨x0, x1, x2, x3⟩ := X.out.box; clear hb)
       | (go_at_call 67; refine (ON.out _ _ _ HR.out HC.out).mono ?_; rintro e w3 ⟨rfl, hb⟩; have X := zUB (X.out.went hb); obtain ⟨x0, x1, x2, x3⟩ := X.out.box; clear hb)
       | (go_at_call 69; refine (K.out _ X.out.below).mono ?_; rintro e w4 ⟨rfl, hb⟩; have X := zUB (X.out.went hb); obtain ⟨x0, x1, x2, x3⟩ := X.out.box; clear hb)
       | (go_at_call 70; refine (U.out _ X.out.below).mono ?_; rintro e w5 ⟨rfl, hb⟩; have X := zUB (X.out.went hb); obtain ⟨x0, x1, x2, x3⟩ := X.out.box; clear hb))
      go_ret
      exact ⟨zAU E.out, X.out.below⟩
     | true =>
      rw [h4] at U
      have E0 := zUB (zDO h0 h1 h2 h3 h4)
      have E9 := zUB (zEV h0 h1 h2 h3 h4)
      clear h0 h1 h2 h3 h4
      go_enter Tryz.func30, Tryz.ntmps30
      go_wp2_with (first
       | (go_at_call 65; refine (M.out _ X.out.below).mono ?_; rintro e w1 ⟨rfl, hb⟩; have X := zUB (X.out.went hb); obtain ⟨x0, x1, x2, x3⟩ := X.out.box; clear hb)
       | (go_at_call 66; refine (F.out _ X.out.below).mono ?_; rintro e w1 ⟨rfl, hb⟩; have X := zUB (X.out.went hb); obtain ⟨x0, x1, x2, x3⟩ := X.out.box; clear hb)
       | (go_at_call 68; refine (NA.out _ X.out.below).mono ?_; rintro e w2 ⟨a', c', rfl, hR, hcap, hb⟩; have HR := zUB hR; have HC := zUB hcap; clear hR hcap; have X := zUB (X.out.went hb); obtain ⟨x0, x1, x2, x3⟩ := X.out.box; clear hb)
       | (go_at_call 67; refine (ON.out _ _ _ HR.out HC.out).mono ?_; rintro e w3 ⟨rfl, hb⟩; have X := zUB (X.out.went hb); obtain ⟨x0, x1, x2, x3⟩ := X.out.box; clear hb)
       | (go_at_call 69; refine (K.out _ X.out.below).mono ?_; rintro e w4 ⟨rfl, hb⟩; have X := zUB (X.out.went hb); obtain ⟨x0, x1, x2, x3⟩ := X.out.box; clear hb)
       | (go_at_call 70; refine (U.out _ X.out.below).mono ?_; rintro e w5 ⟨rfl, hb⟩; have X := zUB (X.out.went hb); obtain ⟨x0, x1, x2, x3⟩ := X.out.box; clear hb))
      have XL := X
      clear X M F K U NA ON HR HC KG
      go_loopw [3] (fun i wr => ∃ j : Nat, j <= G.nons.length /\ i = .int .i64 j /\ (∀ i, i < j -> 0 < (ofL G ((G.terms.length : Int) + 1 + i)).length) /\ Bx w h G wr) (fun i _ => G.nons.length - (intOf i).toNat)
      case atStart => exact ⟨0, Nat.zero_le _, rfl, fun _ h => absurd h (by omega), XL.out⟩
      case round =>
       clear XL
       obtain ⟨j, hj, rfl, hA, hX⟩ := hrel
       have A := zUB hA
       have X := zUB hX
       obtain ⟨x0, x1, x2, x3⟩ := hX.box
       clear hA hX
       by_cases hlt : j < G.nons.length
       ·have NN := zUB (N.out ((G.terms.length : Int) + 1 + j))
        have F3 := zUB (zFn (G := G) (k := j) hlt)
        have F4 := zUB (fun (h0 : 0 < (ofL G ((G.terms.length : Int) + 1 + j)).length) i (hi : i < j + 1) => show 0 < (ofL G ((G.terms.length : Int) + 1 + i)).length by
         by_cases e : i = j
         ·subst e; exact h0
         ·exact A.out i (by omega))
        generalize hL : ofL G ((G.terms.length : Int) + 1 + j) = L at NN F3 F4
        clear hL
        rcases L with _ | ⟨x, l⟩
        ·have FR := zUB (E9.out (F3.out (by simp)))
         clear F3 F4
         go_wp2_with (go_at_call 45; refine (NN.out _ X.out.below).mono ?_; rintro e w2 ⟨a', c', rfl, hr, hn, hb⟩; have X := zUB (X.out.went hb); clear hb hr hn)
         go_ret
         exact ⟨zAU FR.out, X.out.below⟩
        ·have FR := zUB (F4.out (by simp))
         clear F3 F4
         go_wp2_with (go_at_call 45; refine (NN.out _ X.out.below).mono ?_; rintro e w2 ⟨a', c', rfl, hr, hn, hb⟩; have X := zUB (X.out.went hb); clear hb hr hn)
         go_roundw
         case rel => exact ⟨j + 1, by omega, by go_num, FR.out, X.out⟩
         case measure => simp [intOf]; omega
       ·have FR := zUB (E0.out (zGo A.out hlt))
        go_wp2
        go_ret
        exact ⟨zAU FR.out, X.out.below⟩
