/-
  The walks of the statements on trimmed grammars: what is trimmed may be, all of it is of use, and it stays; a grammar, all of which is of use, is trimmed to itself. Condition: the library's table in math/bits holds its numbers.
-/
import Derived.Test.YtljblpekpmgmaaaDoorLiveAwake
import Derived.Test.YtljblpekpmgmaaaDoorGramRSame
import Derived.Test.YtljblpekpmgmaaaDoorGramMuch
namespace Go.Proofs.YtljblpekpmgmaaaDoor.Lv
open Go.RowKit Go.Maps
open Go.Proofs.YtljblpekpmgmaaaDoor.Gr
open Go.Proofs.YtljblpekpmgmaaaDoor.Bt (Tab)
set_option linter.unusedVariables false

/-- What is trimmed is valid, of use, and trimmed to itself. -/
structure Fit (H : Gram) : Prop where
  check : checkN H = 0
  tell : (checkL H).1 = 0
  same : trimR H = H
  yes : trimB H = true
theorem fit_trim {G : Gram} (h : trimB G = true) : Fit (trimR G) := by
  have hk : TrimOk G := by unfold trimB at h; rwa [@decide_eq_true_iff _ (Classical.propDecidable _)] at h
  rw [(trim_yes hk).2]
  have c := trim_check hk.1 hk.2
  have u := trim_useful hk.1 hk.2
  have ok : TrimOk (trimG G) := ⟨c, useful_start c u⟩
  exact ⟨c, checkL_ok.2 ⟨c, u⟩, by rw [(trim_yes ok).2]; exact trim_trim hk.1 hk.2, (trim_yes ok).1⟩
theorem fit_self {G : Gram} (h : (checkL G).1 = 0) : trimR G = G ∧ trimB G = true := by
  obtain ⟨c, u⟩ := checkL_ok.1 h
  have ok : TrimOk G := ⟨c, useful_start c u⟩
  exact ⟨by rw [(trim_yes ok).2]; exact trim_self c u, (trim_yes ok).1⟩
theorem not_trim {G : Gram} (h : trimB G = false) : trimR G = noG := by
  unfold trimR
  rw [h]
  rfl

set_option maxHeartbeats 8000000 in
set_option maxRecDepth 100000 in
theorem trims_law (h : Sh) (G : Gram) (w : World) (k : GAt h G w) (hT : Tab w) :
    Calls Tryd.prog 3 #[gv h G] w (Is (.bool true) w) := by
  have X := Lib.hid (Bx.start h G w 25)
  have MU := Lib.hid (fun w1 (b : Below w.heap.size w w1) => much_any h G w1 (k.went b))
  have TR := Lib.hid (fun w1 (b : Below w.heap.size w w1) => trim_any h G w1 (k.went b))
  have AW := Lib.hid (fun w1 (b : Below w.heap.size w w1) => awake_any w1 (hT.below b hT.pos))
  have FT := Lib.hid (fit_trim (G := G))
  have FN := Lib.hid (not_trim (G := G))
  clear k hT
  obtain ⟨x0, x1, x2, x3⟩ := X.out.box
  unfold gv
  go_enter Tryd.func3, Tryd.ntmps3
  go_wp2_with fail
  refine (MU.out _ X.out.below).mono ?_
  rintro e w1 ⟨n, rfl, hn, hb⟩
  have X := Lib.hid (X.out.went hb)
  clear hb MU hn x0 x1 x2 x3
  obtain ⟨x0, x1, x2, x3⟩ := X.out.box
  by_cases hn9 : 200 < n
  · go_wp2_with (go_at_call 7; refine (AW.out _ X.out.below).mono ?_; rintro e w2 ⟨rfl, hb⟩; have HB := Lib.hid (Gr.step X.out.below hb); clear hb)
    go_ret
    exact ⟨rfl, HB.out⟩
  go_wp2_with fail
  refine (TR.out _ X.out.below).mono ?_
  rintro e w2 ⟨⟨b1, e1, b2, e2, b3, e3⟩, rfl, hG, hb⟩
  have B2 := Lib.hid (Gr.step X.out.below hb)
  have GN := Lib.hid hG
  clear hG hb TR X x0 x1 x2 x3
  generalize trimR G = H at *
  generalize trimB G = tb at *
  have Q := Lib.hid (Rw.Bk.new w2 #[.slice b1 H.terms.length e1, .slice b2 H.nons.length e2, .slice b3 H.rules.length e3, .int .i64 H.start] 25 _ rfl)
  have B3 := Lib.hid (Gr.step B2.out (boxed w2 (.cells #[.slice b1 H.terms.length e1, .slice b2 H.nons.length e2, .slice b3 H.rules.length e3, .int .i64 H.start] 25)))
  have KH := Lib.hid (GN.out.at_.went (boxed w2 (.cells #[.slice b1 H.terms.length e1, .slice b2 H.nons.length e2, .slice b3 H.rules.length e3, .int .i64 H.start] 25)))
  cases tb with
  | false =>
    have SM := Lib.hid (show ∀ w1, GAt ⟨b1, e1, b2, e2, b3, e3⟩ H w1 → Calls Tryd.prog 9 #[gv ⟨b1, e1, b2, e2, b3, e3⟩ H, .agg #[.slice none 0 0, .slice none 0 0, .slice none 0 0, .int .i64 0]] w1 (Is (.bool true) w1) from fun w1 hk => by
      have := rsame_any ⟨b1, e1, b2, e2, b3, e3⟩ ⟨none, 0, none, 0, none, 0⟩ H noG w1 hk (no_new 0 w1).at_
      rw [FN.out rfl, sameG_self] at this
      rw [FN.out rfl]
      exact this)
    clear FN FT
    go_wp2_with fail
    refine (SM.out _ KH.out).mono ?_
    rintro e w4 ⟨rfl, hb⟩
    have B4 := Lib.hid (Gr.step B3.out hb)
    clear hb
    go_wp2_with fail
    refine (AW.out _ B4.out).mono ?_
    rintro e w5 ⟨rfl, hb⟩
    have HB := Lib.hid (Gr.step B4.out hb)
    clear hb
    go_wp2
    go_ret
    exact ⟨rfl, HB.out⟩
  | true =>
    obtain ⟨f1, f2, f3, f4⟩ := FT.out rfl
    have F1 := Lib.hid f1
    have TL := Lib.hid (fun w1 (hk : GAt ⟨b1, e1, b2, e2, b3, e3⟩ H w1) => tell_any _ _ w1 hk)
    generalize checkL H = cl at f2 TL
    obtain ⟨cl1, cl2⟩ := cl
    simp only at f2
    subst f2
    have TR2 := Lib.hid (fun w1 (hk : GAt ⟨b1, e1, b2, e2, b3, e3⟩ H w1) => trim_any _ _ w1 hk)
    unfold Trimmed at TR2
    rw [f3, f4] at TR2
    have CK := Lib.hid (fun w1 (hk : GAt ⟨b1, e1, b2, e2, b3, e3⟩ H w1) => check_any _ _ w1 hk)
    rw [f1] at CK
    clear f1 f3 f4 FN FT
    go_wp2_with fail
    refine (TL.out _ KH.out).mono ?_
    rintro e w4 ⟨rfl, hb⟩
    have Q4 := Lib.hid (Q.out.went hb)
    have K4 := Lib.hid (KH.out.went hb)
    have B4 := Lib.hid (Gr.step B3.out hb)
    clear hb Q KH B3
    obtain ⟨y0, y1, y2, y3, yf⟩ := Q4.out.four
    have hl4 := Q4.out.lt
    go_wp2_with fail
    refine (TR2.out _ K4.out).mono ?_
    rintro e w5 ⟨⟨b4, e4, b5, e5, b6, e6⟩, rfl, hG, hb⟩
    have bx := boxed w5 (.cells #[.slice b4 H.terms.length e4, .slice b5 H.nons.length e5, .slice b6 H.rules.length e6, .int .i64 H.start] 25)
    have Q5 := Lib.hid (Q4.out.went hb)
    have K5 := Lib.hid (K4.out.went (Gr.step hb bx))
    have L5 := Lib.hid (hG.at_.went bx)
    have B5 := Lib.hid (Gr.step B4.out (Gr.step hb bx))
    have R5 := Lib.hid (Rw.Bk.new w5 #[.slice b4 H.terms.length e4, .slice b5 H.nons.length e5, .slice b6 H.rules.length e6, .int .i64 H.start] 25 _ rfl)
    clear hb hG Q4 K4 B4 bx y0 y1 y2 y3 yf hl4
    obtain ⟨y0, y1, y2, y3, yf⟩ := Q5.out.four
    have hl5 := Q5.out.lt
    have S5 := Lib.hid (Q5.out.went (boxed w5 (.cells #[.slice b4 H.terms.length e4, .slice b5 H.nons.length e5, .slice b6 H.rules.length e6, .int .i64 H.start] 25)))
    go_wp2_with fail
    refine (CK.out _ K5.out).mono ?_
    rintro e w6 ⟨rfl, hb⟩
    have Q6 := Lib.hid (S5.out.went hb)
    have R6 := Lib.hid (R5.out.went hb)
    have K6 := Lib.hid (K5.out.went hb)
    have L6 := Lib.hid (L5.out.went hb)
    have B6 := Lib.hid (Gr.step B5.out hb)
    clear hb y0 y1 y2 y3 yf hl5
    obtain ⟨y0, y1, y2, y3, yf⟩ := Q6.out.four
    obtain ⟨z0, z1, z2, z3, zf⟩ := R6.out.four
    have SM := Lib.hid (rsame_any _ _ H H w6 K6.out L6.out)
    rw [sameG_self] at SM
    go_wp2_with fail
    refine SM.out.mono ?_
    rintro e w7 ⟨rfl, hb⟩
    have B7 := Lib.hid (Gr.step B6.out hb)
    clear hb y0 y1 y2 y3 yf z0 z1 z2 z3 zf
    go_wp2_with fail
    refine (AW.out _ B7.out).mono ?_
    rintro e w8 ⟨rfl, hb⟩
    have HB := Lib.hid (Gr.step B7.out hb)
    clear hb
    go_wp2
    go_ret
    exact ⟨rfl, HB.out⟩

set_option maxHeartbeats 8000000 in
set_option maxRecDepth 100000 in
theorem stays_law (h : Sh) (G : Gram) (w : World) (k : GAt h G w) (hT : Tab w) :
    Calls Tryd.prog 4 #[gv h G] w (Is (.bool true) w) := by
  have X := Lib.hid (Bx.start h G w 25)
  have MU := Lib.hid (fun w1 (b : Below w.heap.size w w1) => much_any h G w1 (k.went b))
  have TR := Lib.hid (fun w1 (b : Below w.heap.size w w1) => trim_any h G w1 (k.went b))
  have TL := Lib.hid (fun w1 (b : Below w.heap.size w w1) => tell_any h G w1 (k.went b))
  have AW := Lib.hid (fun w1 (b : Below w.heap.size w w1) => awake_any w1 (hT.below b hT.pos))
  have FS := Lib.hid (fit_self (G := G))
  have KG := Lib.hid k
  clear k hT
  obtain ⟨x0, x1, x2, x3⟩ := X.out.box
  unfold gv
  go_enter Tryd.func4, Tryd.ntmps4
  go_wp2_with fail
  refine (MU.out _ X.out.below).mono ?_
  rintro e w1 ⟨n, rfl, hn, hb⟩
  have X := Lib.hid (X.out.went hb)
  clear hb MU hn x0 x1 x2 x3
  obtain ⟨x0, x1, x2, x3⟩ := X.out.box
  by_cases hn9 : 200 < n
  · go_wp2_with (go_at_call 7; refine (AW.out _ X.out.below).mono ?_; rintro e w2 ⟨rfl, hb⟩; have HB := Lib.hid (Gr.step X.out.below hb); clear hb)
    go_ret
    exact ⟨rfl, HB.out⟩
  go_wp2_with fail
  refine (TL.out _ X.out.below).mono ?_
  rintro e w2 ⟨rfl, hb⟩
  have X2 := Lib.hid (X.out.went hb)
  clear hb TL X x0 x1 x2 x3
  obtain ⟨x0, x1, x2, x3⟩ := X2.out.box
  generalize checkL G = cl at *
  obtain ⟨cl1, cl2⟩ := cl
  by_cases hc : cl1 = 0
  · subst hc
    obtain ⟨f1, f2⟩ := FS.out rfl
    unfold Trimmed at TR
    rw [f1, f2] at TR
    clear f1 f2 FS
    go_wp2_with fail
    refine (TR.out _ X2.out.below).mono ?_
    rintro e w3 ⟨⟨b1, e1, b2, e2, b3, e3⟩, rfl, hG, hb⟩
    have bx := boxed w3 (.cells #[.slice b1 G.terms.length e1, .slice b2 G.nons.length e2, .slice b3 G.rules.length e3, .int .i64 G.start] 25)
    have X3 := Lib.hid ((X2.out.went hb).went bx)
    have Q3 := Lib.hid (Rw.Bk.new w3 #[.slice b1 G.terms.length e1, .slice b2 G.nons.length e2, .slice b3 G.rules.length e3, .int .i64 G.start] 25 _ rfl)
    have L3 := Lib.hid (hG.at_.went bx)
    have hw3 : w.heap.size < w3.heap.size := Nat.lt_of_lt_of_le X2.out.size hb.size
    have XX := Lib.hid (X2.out.went hb)
    clear hb hG bx x0 x1 x2 x3
    obtain ⟨x0, x1, x2, x3⟩ := XX.out.box
    have SM := Lib.hid (rsame_any h _ G G _ (KG.out.went X3.out.below) L3.out)
    rw [sameG_self] at SM
    go_wp2_with fail
    refine SM.out.mono ?_
    rintro e w7 ⟨rfl, hb⟩
    have B7 := Lib.hid (Gr.step X3.out.below hb)
    clear hb x0 x1 x2 x3
    go_wp2_with fail
    refine (AW.out _ B7.out).mono ?_
    rintro e w8 ⟨rfl, hb⟩
    have HB := Lib.hid (Gr.step B7.out hb)
    clear hb
    go_wp2
    go_ret
    exact ⟨rfl, HB.out⟩
  · have hcb : (cl1 != 0) = true := by simpa using hc
    clear hc FS
    go_wp2_with (go_at_call 7; refine (AW.out _ X2.out.below).mono ?_; rintro e w3 ⟨rfl, hb⟩; have HB := Lib.hid (Gr.step X2.out.below hb); clear hb)
    go_ret
    exact ⟨rfl, HB.out⟩

end Go.Proofs.YtljblpekpmgmaaaDoor.Lv
