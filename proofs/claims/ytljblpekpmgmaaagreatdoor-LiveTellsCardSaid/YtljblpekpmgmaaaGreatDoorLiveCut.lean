/-
  Package live: Trim. No condition.
-/
import Derived.Test.YtljblpekpmgmaaaGreatDoorLiveOnly
namespace Go.Proofs.YtljblpekpmgmaaaGreatDoor.Lv
open Go.RowKit Go.Maps
open Go.Proofs.YtljblpekpmgmaaaGreatDoor.Gr
open Go.Proofs.YtljblpekpmgmaaaGreatDoor.Rw (Bk IntsV GRules zg row_shape)
open Go.Proofs.YtljblpekpmgmaaaGreatDoor.Bt (SetAt SetV has Keeps Upto Tab els)
set_option linter.unusedVariables false
set_option linter.unusedSimpArgs false

/-- No grammar. -/
def noG : Gram := { terms := [], nons := [], rules := [], start := 0 }
noncomputable def trimB (G : Gram) : Bool := @decide (TrimOk G) (Classical.propDecidable _)
noncomputable def trimR (G : Gram) : Gram := if trimB G = true then trimG G else noG
theorem trim_yes {G : Gram} (h : TrimOk G) : trimB G = true ∧ trimR G = trimG G := by
  have e : trimB G = true := by unfold trimB; rw [@decide_eq_true_iff _ (Classical.propDecidable _)]; exact h
  exact ⟨e, by unfold trimR; rw [if_pos e]⟩
theorem trim_no {G : Gram} (h : ¬ TrimOk G) : trimB G = false ∧ trimR G = noG := by
  have e : trimB G = false := by unfold trimB; rw [@decide_eq_false_iff_not _ (Classical.propDecidable _)]; exact h
  exact ⟨e, by unfold trimR; rw [e]; rfl⟩
theorem no_new (n : Nat) (w : World) : GNew n ⟨none, 0, none, 0, none, 0⟩ noG w := fun w'' _ _ =>
  ⟨.nil _ _, .nil _ _, fun i hi => absurd hi (by simp [noG]), by simp [noG], by simp [noG], by simp [noG], by simp [noG], by simp [noG], ⟨(fun s hs => by cases hs), (fun s hs => by cases hs), (by unfold Fits noG; simp), (fun r hr => by cases hr), (fun r hr => by cases hr)⟩⟩

/-- A grammar and a yes or no come back, the grammar in blocks of the call's own; nothing that was there is written. -/
def Trimmed (G : Gram) (w : World) (e : Ending) (w' : World) : Prop := ∃ sh, e = .returned (.tuple #[gv sh (trimR G), .bool (trimB G)]) ∧ GNew w.heap.size sh (trimR G) w' ∧ Below w.heap.size w w'

theorem kept_at {h : Sh} {G : Gram} {W w : World} {base c : Nat} {a : Option Addr} (k : GAt h G W) (hb : Below W.heap.size W w) (hg : GShare W base (keepR G) (.slice a (keepR G).length c) w) (hc : (keepR G).length ≤ c) :
    GAt ⟨h.a1, h.c1, h.a2, h.c2, a, c⟩ (keptG G) w :=
  have k2 := k.went hb
  have hl : (keepR G).length ≤ G.rules.length := List.length_filter_le _ _
  have hr := k.r2
  ⟨k2.terms, k2.nons, hg.rules hb, k2.t1, k2.t2, k2.n2, hc, show (keepR G).length ≤ 4398046511104 by omega,
    ⟨k.ok.terms, k.ok.nons, k.ok.start, fun r hr => k.ok.left r (mem_keep.1 hr).1, fun r hr => k.ok.right r (mem_keep.1 hr).1⟩⟩

set_option maxRecDepth 100000 in
set_option maxHeartbeats 8000000 in
theorem trim_any (h : Sh) (G : Gram) (w : World) (k : GAt h G w) :
    Calls Tryz.prog 8 #[gv h G] w (Trimmed G w) := by
  obtain ⟨a1, c1, a2, c2, a3, c3⟩ := h
  have X := Lib.hid ((Bx.start ⟨a1, c1, a2, c2, a3, c3⟩ G w 25).went (boxed _ (.cells zg 25)))
  have Q := Lib.hid ((Bk.new w #[.slice a1 G.terms.length c1, .slice a2 G.nons.length c2, .slice a3 G.rules.length c3, .int .i64 G.start] 25 _ rfl).went (boxed _ (.cells zg 25)))
  have Z := Lib.hid (Bk.new (w.alloc (.cells #[.slice a1 G.terms.length c1, .slice a2 G.nons.length c2, .slice a3 G.rules.length c3, .int .i64 G.start] 25)) zg 25 (w.heap.size + 1) (by simp))
  have C := Lib.hid (fun w1 (b : Below w.heap.size w w1) => check_any ⟨a1, c1, a2, c2, a3, c3⟩ G w1 (k.went b))
  obtain ⟨x0, x1, x2, x3⟩ := X.out.box
  try dsimp only at x0 x1 x2 x3
  by_cases hc : checkN G = 0
  · have SM := Lib.hid (sml_of hc)
    have FP := Lib.hid (fun w1 (b : Below w.heap.size w w1) => findProductive_any ⟨a1, c1, a2, c2, a3, c3⟩ G w1 (k.went b) SM.out)
    have LR := Lib.hid (fun p d n B w1 (b : Below w.heap.size w w1) hS hf => liveRules_any ⟨a1, c1, a2, c2, a3, c3⟩ G p d n B w w1 k b hS SM.out.r hf)
    have KG := Lib.hid k
    have HC := Lib.hid hc
    have hst := non_in (start_known SM.out.known)
    have hsn := start_known SM.out.known
    have htop : top G ≤ 240 := by have := SM.out.t; have := SM.out.n; unfold top; omega
    rw [hc] at C
    clear k hc
    unfold gv
    dsimp only
    go_enter Tryz.func8, Tryz.ntmps8
    go_wp2_with (first
      | (go_at_call 16; refine (C.out _ X.out.below).mono ?_; rintro e w1 ⟨rfl, hb⟩; have X1 := Lib.hid (X.out.went hb); have Z1 := Lib.hid (Z.out.went hb); have Q1 := Lib.hid (Q.out.went hb); clear x0 x1 x2 x3; obtain ⟨x0, x1, x2, x3⟩ := X1.out.box; try dsimp only at x0 x1 x2 x3; clear hb)
      | (go_at_call 18; refine (FP.out _ X1.out.below).mono ?_; rintro e w2 ⟨p, d, B, rfl, hp, hd, hS, hf, hb⟩; have X2 := Lib.hid (X1.out.went hb); have Z2 := Lib.hid (Z1.out.went hb); have Q2 := Lib.hid (Q1.out.went hb); have S2 := Lib.hid hS; have F2 := Lib.hid hf; clear x0 x1 x2 x3; obtain ⟨x0, x1, x2, x3⟩ := X2.out.box; try dsimp only at x0 x1 x2 x3; clear hb hS hf hp hd))
    have H := Lib.hid (Bt.has_any w2 (.at_ S2.out) G.start (by omega))
    cases hh : has B G.start with
    | false =>
      obtain ⟨e1, e2⟩ := trim_no (G := G) fun hk => by rw [(F2.out _).2 hk.2] at hh; cases hh
      have E1 := Lib.hid e1
      have E2 := Lib.hid e2
      rw [hh] at H
      refine H.out.mono ?_
      rintro e w3 ⟨rfl, m, rfl⟩
      have X3 := Lib.hid (X2.out.went (drawnN _ m))
      have Z3 := Lib.hid (Z2.out.went (drawnN _ m))
      obtain ⟨z0, z1, z2, z3, zf⟩ := Z3.out.four
      generalize w2.drewN m = w3 at *
      clear hh e1 e2
      go_wp2
      have BL2 := Rw.below_set4 (q := w.heap.size + 1) X3.out.below (by omega) (.slice none 0 0) (.slice none 0 0) (.slice none 0 0) (.int .i64 0)
      try simp only [Exit.inBlock, Exit.then]
      refine bodyPost_ret (v := .tuple #[.agg #[.slice none 0 0, .slice none 0 0, .slice none 0 0, .int .i64 0], .bool false]) (by simp [results, Tryz.results8, go_sem, z0, z1, z2, z3]) rfl ⟨⟨none, 0, none, 0, none, 0⟩, ?_, ?_, BL2⟩
      · rw [E1.out, E2.out]
        rfl
      · rw [E2.out]
        exact no_new _ _
    | true =>
      obtain ⟨e1, e2⟩ := trim_yes (G := G) ⟨HC.out, (F2.out _).1 hh⟩
      have E1 := Lib.hid e1
      have E2 := Lib.hid e2
      rw [hh] at H
      refine H.out.mono ?_
      rintro e w3 ⟨rfl, m, rfl⟩
      have X3 := Lib.hid (X2.out.went (drawnN _ m))
      have Z3 := Lib.hid (Z2.out.went (drawnN _ m))
      have S3 := Lib.hid (set_went S2.out (drawnN _ m))
      have Q3 := Lib.hid (Q2.out.went (drawnN _ m))
      clear x0 x1 x2 x3
      generalize w2.drewN m = w3 at *
      obtain ⟨x0, x1, x2, x3⟩ := X3.out.box
      try dsimp only at x0 x1 x2 x3
      have LC := Lib.hid (LR.out p d _ B w3 X3.out.below S3.out F2.out)
      clear hh e1 e2 LR FP C H
      go_wp2_with (go_at_call 26; refine LC.out.mono ?_; rintro e w4 ⟨v, rfl, hG, hb⟩; have X4 := Lib.hid (X3.out.went hb); have Z4 := Lib.hid (Z3.out.went hb); have Q4 := Lib.hid (Q3.out.went hb); have xf := Q4.out.free; obtain ⟨av, cv, rfl, hcv⟩ := hG.len; have GS := Lib.hid hG; have B4 := Lib.hid hb; clear hb hG x0 x1 x2 x3; obtain ⟨x0, x1, x2, x3⟩ := X4.out.box; try dsimp only at x0 x1 x2 x3)
      obtain ⟨wk, hwk⟩ : ∃ wk, w4.setCell ⟨w.heap.size, 2, none⟩ (.slice av (keepR G).length cv) = wk := ⟨_, rfl⟩
      rw [hwk]
      have hF : Sep.Fr (fun k => k = w.heap.size) w4 wk := by rw [← hwk]; exact (Sep.Fr.refl (fun k => k = w.heap.size) w4).setCell ⟨w.heap.size, 2, none⟩ rfl _
      have BK := Lib.hid (show Below w.heap.size w wk from X4.out.below.trans (hF.below (m := w.heap.size) (fun k hk => by omega) X4.out.below.size))
      have QK := Lib.hid (show Bk w.heap.size #[.slice a1 G.terms.length c1, .slice a2 G.nons.length c2, .slice av (keepR G).length cv, .int .i64 G.start] 25 wk by rw [← hwk]; exact Q4.out.set (j := 2) (by simp) _)
      have ZK := Lib.hid (Z4.out.fr hF (by omega))
      have hx3 := X3.out.size
      have GK := Lib.hid (show GAt ⟨a1, c1, a2, c2, av, cv⟩ (keptG G) wk from kept_at KG.out BK.out (GS.out.at_ fun g hg => hF.block g (by obtain ⟨L, _, h2, _⟩ := GS.out; exact (h2.lt g hg).2) (by obtain ⟨L, _, h2, _⟩ := GS.out; have := (h2.lt g hg).1; omega)) hcv)
      have FR := Lib.hid (fun w1 (b : Below wk.heap.size wk w1) => findReached_any ⟨a1, c1, a2, c2, av, cv⟩ (keptG G) w1 (GK.out.went b) (sml_kept SM.out))
      have ON := Lib.hid (fun p d B w1 (b : Below wk.heap.size wk w1) hS hf => only_any ⟨a1, c1, a2, c2, av, cv⟩ (keptG G) p d B (Rch (keptG G)) w1 (GK.out.went b) hS (sml_kept SM.out) hf)
      clear hwk hF hcv GS X4 Z4 Q4 B4 X3 Z3 S3 Q3 X2 Z2 Q2 S2 F2 X1 Z1 Q1 x0 x1 x2 x3 xf LC SM hx3
      obtain ⟨x0, x1, x2, x3, xf⟩ := QK.out.four
      obtain ⟨z0, z1, z2, z3, zf⟩ := ZK.out.four
      have HQ := Lib.hid (four x0 x1 x2 x3)
      have hbd := drawn wk
      have hzk : w.heap.size + 1 < wk.heap.size := ZK.out.lt
      have HT := Lib.hid (show ∀ w' a b c e, Below wk.heap.size wk w' → (((((w'.setCell ⟨w.heap.size + 1, 0, none⟩ a).setCell ⟨w.heap.size + 1, 1, none⟩ b).setCell ⟨w.heap.size + 1, 2, none⟩ c).setCell ⟨w.heap.size + 1, 3, none⟩ e).cell? ⟨w.heap.size, 0, none⟩ = some (.slice a1 G.terms.length c1) ∧ ((((w'.setCell ⟨w.heap.size + 1, 0, none⟩ a).setCell ⟨w.heap.size + 1, 1, none⟩ b).setCell ⟨w.heap.size + 1, 2, none⟩ c).setCell ⟨w.heap.size + 1, 3, none⟩ e).cell? ⟨w.heap.size, 1, none⟩ = some (.slice a2 G.nons.length c2) ∧ ((((w'.setCell ⟨w.heap.size + 1, 0, none⟩ a).setCell ⟨w.heap.size + 1, 1, none⟩ b).setCell ⟨w.heap.size + 1, 2, none⟩ c).setCell ⟨w.heap.size + 1, 3, none⟩ e).cell? ⟨w.heap.size, 2, none⟩ = some (.slice av (keepR G).length cv) ∧ ((((w'.setCell ⟨w.heap.size + 1, 0, none⟩ a).setCell ⟨w.heap.size + 1, 1, none⟩ b).setCell ⟨w.heap.size + 1, 2, none⟩ c).setCell ⟨w.heap.size + 1, 3, none⟩ e).cell? ⟨w.heap.size, 3, none⟩ = some (.int .i64 G.start))
        from fun w' a b c e hb => by
          have q := (QK.out.went hb).fr (Rw.fr_set4 w' (w.heap.size + 1) a b c e) (by omega)
          obtain ⟨q0, q1, q2, q3, _⟩ := q.four
          exact ⟨q0, q1, q2, q3⟩)
      have HC4 := Lib.hid (show ∀ w', Below wk.heap.size wk w' → w'.cell? ⟨w.heap.size, 0, none⟩ = some (.slice a1 G.terms.length c1) ∧ w'.cell? ⟨w.heap.size, 1, none⟩ = some (.slice a2 G.nons.length c2) ∧ w'.cell? ⟨w.heap.size, 2, none⟩ = some (.slice av (keepR G).length cv) ∧ w'.cell? ⟨w.heap.size, 3, none⟩ = some (.int .i64 G.start) from fun w' hb => by
        obtain ⟨q0, q1, q2, q3, _⟩ := (QK.out.went hb).four
        exact ⟨q0, q1, q2, q3⟩)
      have ZL := Lib.hid (fun w' (hb : Below wk.heap.size wk w') => ZK.out.went hb)
      clear x0 x1 x2 x3 xf z0 z1 z2 z3 zf HQ
      go_region_held3 (fun w' => w'.cell? ⟨w.heap.size, 0, none⟩ = some (.slice a1 G.terms.length c1) ∧ w'.cell? ⟨w.heap.size, 1, none⟩ = some (.slice a2 G.nons.length c2) ∧ w'.cell? ⟨w.heap.size, 2, none⟩ = some (.slice av (keepR G).length cv) ∧ w'.cell? ⟨w.heap.size, 3, none⟩ = some (.int .i64 G.start))
        (first | exact HC4.out _ (by assumption) | exact HT.out _ _ _ _ _ (by assumption))
        (first
          | (go_at_call 17; refine (FR.out _ hbd).mono ?_; rintro e w5 ⟨p1, d1, B1, rfl, hp1, hd1, hS1, hf1, hb⟩; have l1 : Below wk.heap.size wk w5 := Gr.step hbd hb; clear hb)
          | (go_at_call 27; refine (ON.out p1 d1 B1 _ l1 hS1 hf1).mono ?_; rintro e w6 ⟨⟨b1, e1, b2, e2, b3, e3⟩, rfl, hG6, hb⟩; have l2 : Below wk.heap.size wk w6 := Gr.step l1 hb; obtain ⟨z0, z1, z2, z3, zf⟩ := (ZL.out _ l2).four; have hz6 : w.heap.size + 1 < w6.heap.size := (ZL.out _ l2).lt; clear hb)
          | fail)
      have hl1 := l1.size
      go_wp2
      have hF4 := Rw.fr_set4 w6 (w.heap.size + 1) (.slice b1 (trimG G).terms.length e1) (.slice b2 (trimG G).nons.length e2) (.slice b3 (trimG G).rules.length e3) (.int .i64 (trimG G).start)
      have GN := (GNew.fr hG6 hF4 (fun k hk => by omega)).mono (n := w.heap.size) (by omega)
      have BL2 := Rw.below_set4 (q := w.heap.size + 1) (Gr.step BK.out l2) (by omega) (.slice b1 (trimG G).terms.length e1) (.slice b2 (trimG G).nons.length e2) (.slice b3 (trimG G).rules.length e3) (.int .i64 (trimG G).start)
      try simp only [Exit.inBlock, Exit.then]
      refine bodyPost_ret (v := .tuple #[gv ⟨b1, e1, b2, e2, b3, e3⟩ (trimG G), .bool true]) (by simp [results, Tryz.results8, go_sem, z0, z1, z2, z3]; exact ⟨rfl, rfl, rfl, rfl⟩) rfl ⟨⟨b1, e1, b2, e2, b3, e3⟩, ?_, ?_, BL2⟩
      · rw [E1.out, E2.out]
      · rw [E2.out]
        exact GN
  · obtain ⟨e1, e2⟩ := trim_no (G := G) fun hk => hc hk.1
    have E1 := Lib.hid e1
    have E2 := Lib.hid e2
    have hb : (checkN G != 0) = true := by simpa using hc
    clear k hc e1 e2
    generalize checkN G = ck at *
    unfold gv
    dsimp only
    go_enter Tryz.func8, Tryz.ntmps8
    go_wp2_with (go_at_call 16; refine (C.out _ X.out.below).mono ?_; rintro e w1 ⟨rfl, hb1⟩; have X1 := Lib.hid (X.out.went hb1); obtain ⟨z0, z1, z2, z3, zf⟩ := (Z.out.went hb1).four; clear hb1 x0 x1 x2 x3)
    have BL2 := Rw.below_set4 (q := w.heap.size + 1) X1.out.below (by omega) (.slice none 0 0) (.slice none 0 0) (.slice none 0 0) (.int .i64 0)
    try simp only [Exit.inBlock, Exit.then]
    refine bodyPost_ret (v := .tuple #[.agg #[.slice none 0 0, .slice none 0 0, .slice none 0 0, .int .i64 0], .bool false]) (by simp [results, Tryz.results8, go_sem, z0, z1, z2, z3]) rfl ⟨⟨none, 0, none, 0, none, 0⟩, ?_, ?_, BL2⟩
    · rw [E1.out, E2.out]
      rfl
    · rw [E2.out]
      exact no_new _ _

end Go.Proofs.YtljblpekpmgmaaaGreatDoor.Lv
