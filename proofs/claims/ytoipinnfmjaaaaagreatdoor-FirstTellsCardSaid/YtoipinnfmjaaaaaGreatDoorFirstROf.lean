/-
  The plain answers of layer 11: Of. No condition.
-/
import Derived.Test.YtoipinnfmjaaaaaGreatDoorFirstROf0
import Derived.Test.YtoipinnfmjaaaaaGreatDoorMMuch
import Derived.Deep.LoopGhost
import Derived.Deep.DeepCutAuto
import Derived.Deep.OwnRows
import Derived.RegionTactic
import Derived.BigRegion
import Derived.StillTailTactics
namespace Go.Proofs.YtoipinnfmjaaaaaGreatDoor.Fr
open Go.RowKit Go.Maps
open Go.Proofs.YtoipinnfmjaaaaaGreatDoor.Gr
open Go.Proofs.YtoipinnfmjaaaaaGreatDoor.Fi
open Go.Proofs.YtoipinnfmjaaaaaGreatDoor.Bt (Keeps)
open Go.Proofs.YtoipinnfmjaaaaaGreatDoor.Rw (Bk row_shape)
set_option linter.unusedVariables false

/-- The sets of a grammar, or nil: no sets at all. -/
def WS (nl : Bool) (v : Value) (h : Sh) (G : Gram) (C : Int → Bool) (F B : Int → Int → Bool) (w : World) : Prop :=
  (nl = true ∧ v = .pointer none ∧ C = (fun _ => false) ∧ F = (fun _ _ => false) ∧ B = (fun _ _ => false)) ∨ (nl = false ∧ ∃ D p q1 q2 k1 k2, v = .pointer (some ⟨p, 0, none⟩) ∧ RAt D p q1 q2 k1 k2 (top G + 1) h G (tv C F B no0) w)
theorem WS.went {nl : Bool} {v : Value} {h : Sh} {G : Gram} {C : Int → Bool} {F B : Int → Int → Bool} {w w' : World} (k : WS nl v h G C F B w) (hb : Below w.heap.size w w') : WS nl v h G C F B w' := by
  rcases k with k | ⟨h1, D, p, q1, q2, k1, k2, h2, h3⟩
  · exact .inl k
  · exact .inr ⟨h1, D, p, q1, q2, k1, k2, h2, h3.went hb⟩
/-- The sets of a grammar come back; nothing that was there is written. -/
def ROfEnd (h : Sh) (G : Gram) (w : World) (e : Ending) (w' : World) : Prop := ∃ v, e = .returned v ∧ WS (nlB G) v h G (ansC G) (ansF G) (ansB G) w' ∧ Below w.heap.size w w'

def O1Rel (W : World) (h : Sh) (G : Gram) (D : Ix → Nat) (p q1 q2 k1 k2 : Nat) (i : Value) (w : World) : Prop :=
  ∃ k : Nat, k ≤ G.terms.length + 1 ∧ i = .int .i64 k ∧ OSt W h G D p q1 q2 k1 k2 tabC0 (tabFk k) nof w
def O2Out (W : World) (h : Sh) (G : Gram) (D : Ix → Nat) (p q1 q2 k1 k2 : Nat) (g : Nat) (m : Value) (w : World) : Prop :=
  ∃ (C : Int → Bool) (F : Int → Int → Bool) (b : Bool), m = .bool b ∧ OSt W h G D p q1 q2 k1 k2 C F nof w ∧ TOk G.terms.length (top G + 1) C F nof ∧ Snd G C F ∧ Leaf G F ∧ (b = true → missCF C F (G.terms.length + 1) (top G + 1) + 1 ≤ g) ∧ (b = false → Just G C F)
def O2In (W : World) (h : Sh) (G : Gram) (D : Ix → Nat) (p q1 q2 k1 k2 : Nat) (C0 : Int → Bool) (F0 : Int → Int → Bool) (m i : Value) (w : World) : Prop :=
  ∃ (j : Nat) (C : Int → Bool) (F : Int → Int → Bool) (b : Bool), j ≤ G.rules.length ∧ i = .int .i64 j ∧ m = .bool b ∧ OSt W h G D p q1 q2 k1 k2 C F nof w ∧ TOk G.terms.length (top G + 1) C F nof ∧ TriedF G (top G + 1) C0 F0 j C F b
def O3Out (W : World) (h : Sh) (G : Gram) (D : Ix → Nat) (p q1 q2 k1 k2 : Nat) (g : Nat) (m : Value) (w : World) : Prop :=
  ∃ (B : Int → Int → Bool) (b : Bool), m = .bool b ∧ OSt W h G D p q1 q2 k1 k2 (canB G) (fstB G) B w ∧ TOk G.terms.length (top G + 1) (canB G) (fstB G) B ∧ BSnd G B ∧ B G.start 0 = true ∧ (b = true → missT B (G.terms.length + 1) (top G + 1) + 1 ≤ g) ∧ (b = false → B = folB G)
def O3In (W : World) (h : Sh) (G : Gram) (D : Ix → Nat) (p q1 q2 k1 k2 : Nat) (B0 : Int → Int → Bool) (m i : Value) (w : World) : Prop :=
  ∃ (j : Nat) (B : Int → Int → Bool) (b : Bool), j ≤ G.rules.length ∧ i = .int .i64 j ∧ m = .bool b ∧ OSt W h G D p q1 q2 k1 k2 (canB G) (fstB G) B w ∧ TOk G.terms.length (top G + 1) (canB G) (fstB G) B ∧ TriedB G (top G + 1) (canB G) (fstB G) B0 j 0 B b
theorem TOk.addCF {t n : Nat} {C : Int → Bool} {F B : Int → Int → Bool} (h : TOk t n C F B) {r : Int × List Int} (h0 : 0 ≤ r.1) (h1 : r.1 < (n : Int)) : TOk t n (addC C r) (addF C F r) B :=
  ⟨rng_addC h.c h0 h1, (h.addF h0 h1).f1, (h.addF h0 h1).f2, h.b1, h.b2⟩
theorem tok_nof {G : Gram} : TOk G.terms.length (top G + 1) tabC0 (tabF0 G) nof := by
  have e : top G = G.terms.length + G.nons.length := rfl
  refine ⟨(fun x h => by cases h), fun x i hi => ?_, fun x i hi => ?_, (fun x i h => by cases h), (fun x i h => by cases h)⟩
  · unfold tabF0 at hi
    rw [decide_eq_true_iff] at hi
    omega
  · unfold tabF0 at hi
    rw [decide_eq_true_iff] at hi
    omega

set_option maxRecDepth 100000 in
set_option maxHeartbeats 16000000 in
theorem rof_any (h : Sh) (G : Gram) (w : World) (k : GAt h G w) :
    Calls Tryz.prog 7 #[gv h G] w (ROfEnd h G w) := by
  obtain ⟨a1, c1, a2, c2, a3, c3⟩ := h
  have X := Lib.hid (Bx.start ⟨a1, c1, a2, c2, a3, c3⟩ G w 25)
  have C := Lib.hid (fun w1 (b : Below w.heap.size w w1) => rcheck_any ⟨a1, c1, a2, c2, a3, c3⟩ G w1 (k.went b))
  have T1 := Lib.hid (fun w1 (b : Below w.heap.size w w1) => rtop_any ⟨a1, c1, a2, c2, a3, c3⟩ G w1 (k.went b))
  obtain ⟨x0, x1, x2, x3⟩ := X.out.box
  try dsimp only at x0 x1 x2 x3
  by_cases hc : checkN G = 0
  · have SM := Lib.hid (sml_of hc)
    have KG := Lib.hid k
    have AN := Lib.hid (show nlB G = false ∧ ansC G = canB G ∧ ansF G = fstB G ∧ ansB G = folB G from ⟨by unfold nlB; rw [decide_eq_true hc]; rfl, by unfold ansC; rw [if_pos hc], by unfold ansF; rw [if_pos hc], by unfold ansB; rw [if_pos hc]⟩)
    have ht := SM.out.t
    have hnn := SM.out.n
    have TP := Lib.hid (show top G = G.terms.length + G.nons.length from rfl)
    have htop : top G ≤ 240 := by have := TP.out; omega
    have RO := Lib.hid (fun w1 => show Calls Tryz.prog 25 #[.int .i64 ((top G : Int) + 1), .int .i64 ((G.terms.length : Int) + 1)] w1 _ from rows_of (top G + 1) (G.terms.length + 1) w1 (by omega) (by omega) (by omega))
    have hm1 := fun w => show (Instr.makeSlice 45 (.int .i64 ((top G : Int) + 1)) (.int .i64 ((top G : Int) + 1))).run Tryz.prog w = _ from make_bools (top G + 1) (by omega) w
    rw [hc] at C
    clear k hc
    unfold gv
    dsimp only
    go_enter Tryz.func7, Tryz.ntmps7
    go_upto_region 4 with (first
      | (go_at_call 24; refine (C.out _ X.out.below).mono ?_; rintro e w1 ⟨rfl, hb⟩; have X1 := Lib.hid (X.out.went hb); clear hb x0 x1 x2 x3; obtain ⟨x0, x1, x2, x3⟩ := X1.out.box; try dsimp only at x0 x1 x2 x3)
      | (go_at_call 8; refine (T1.out _ X1.out.below).mono ?_; rintro e w2 ⟨rfl, hb⟩; have X2 := Lib.hid (X1.out.went hb); clear hb x0 x1 x2 x3; obtain ⟨x0, x1, x2, x3⟩ := X2.out.box; try dsimp only at x0 x1 x2 x3))
    go_cut [4] (fun s wx => OMid w ⟨a1, c1, a2, c2, a3, c3⟩ G s wx)
    case first =>
      have hq2 : w.heap.size < w2.heap.size := X2.out.size
      have hbd := drawn w2
      have hwr : IntKind.i64.wrap ((G.terms.length : Int) + 1) = (G.terms.length : Int) + 1 := IntWalk.i64_in _ (by omega)
      have HQ := Lib.hid (show ∀ w', Below w2.heap.size w2 w' → w'.cell? ⟨w.heap.size, 0, none⟩ = some (.slice a1 G.terms.length c1) ∧ w'.cell? ⟨w.heap.size, 1, none⟩ = some (.slice a2 G.nons.length c2) ∧ w'.cell? ⟨w.heap.size, 2, none⟩ = some (.slice a3 G.rules.length c3) ∧ w'.cell? ⟨w.heap.size, 3, none⟩ = some (.int .i64 G.start) ∧ Below w2.heap.size w2 w' from
        fun w' hb => ⟨cell_later hb x0, cell_later hb x1, cell_later hb x2, cell_later hb x3, hb⟩)
      go_region_held3 (fun w' => w'.cell? ⟨w.heap.size, 0, none⟩ = some (.slice a1 G.terms.length c1) ∧ w'.cell? ⟨w.heap.size, 1, none⟩ = some (.slice a2 G.nons.length c2) ∧ w'.cell? ⟨w.heap.size, 2, none⟩ = some (.slice a3 G.rules.length c3) ∧ w'.cell? ⟨w.heap.size, 3, none⟩ = some (.int .i64 G.start) ∧ Below w2.heap.size w2 w')
        (exact HQ.out _ (by repeat (first | assumption | (with_reducible exact Below.refl _ _) | (with_reducible refine Below.drew ?_) | (with_reducible refine Gr.step ?_ (Gr.boxed _ _)))))
        (first
          | (go_at_call 25; have kk := kB; (with_reducible refine (RO.out _).mono ?_); rintro e w4 ⟨q4, c4, ds4, rfl, hR4, hb4⟩; have kC : Below w2.heap.size w2 w4 := Gr.step (by repeat (first | assumption | (with_reducible exact Below.refl _ _) | (with_reducible refine Below.drew ?_) | (with_reducible refine Gr.step ?_ (Gr.boxed _ _)))) hb4)
          | (go_at_call 25; (with_reducible refine (RO.out _).mono ?_); rintro e w3 ⟨q3, c3', ds3, rfl, hR3, hb3⟩; have kB : Below w2.heap.size w2 w3 := Gr.step (by repeat (first | assumption | (with_reducible exact Below.refl _ _) | (with_reducible refine Below.drew ?_) | (with_reducible refine Gr.step ?_ (Gr.boxed _ _)))) hb3)
          | fail)
      all_goals
        go_wp2_with fail
        go_meet
        case rel =>
          have htp := TP.out
          have hdr : ∀ u : World, u.drew.heap.size = u.heap.size := fun _ => rfl
          have hs3 := hb3.size
          have hs4 := hb4.size
          have hs5 := kB.size
          first
            | refine omid_of (h := ⟨a1, c1, a2, c2, a3, c3⟩) (?_) (hR3.went hb4) hR4 (?_) (?_) (?_) (?_) (?_) (?_) (?_) htop _ rfl _ (?_)
            | refine omid_of (h := ⟨a1, c1, a2, c2, a3, c3⟩) (?_) ((hR3.went (boxed _ _)).went hb4) hR4 (?_) (?_) (?_) (?_) (?_) (?_) (?_) htop _ rfl _ (?_)
            | refine omid_of (h := ⟨a1, c1, a2, c2, a3, c3⟩) (?_) ((hR3.went hb4).went (boxed _ _)) (hR4.went (boxed _ _)) (?_) (?_) (?_) (?_) (?_) (?_) (?_) htop _ rfl _ (?_)
          · repeat (first | exact brow_new _ _ | refine BRow.went ?_ (boxed _ _) | refine BRow.went ?_ hb4 | refine BRow.went ?_ hb3 | refine BRow.went ?_ (drawn _))
          · repeat (first | exact X2.out.went kC | refine Bx.went ?_ (boxed _ _))
          all_goals try rw [hdr] at hs3
          all_goals try rw [hdr] at hs4
          all_goals try rw [hdr]
          all_goals try rw [hdr]
          all_goals first | omega | (simp at hs3 hs4 ⊢ <;> omega) | (simp at hs3 ⊢ <;> omega) | (simp at hs4 ⊢ <;> omega) | (simp <;> omega)
    case rest =>
      obtain ⟨D, p, q1, q2, k1, k2, rfl, hO⟩ := hcut
      have S0 := Lib.hid (show OSt w ⟨a1, c1, a2, c2, a3, c3⟩ G D p q1 q2 k1 k2 tabC0 (tabFk 0) nof wc by rw [tabFk_zero]; exact hO)
      clear hO hm1 RO C T1 X X1 X2 x0 x1 x2 x3
      go_wp2
      go_loopw [5] (fun i wr => O1Rel w ⟨a1, c1, a2, c2, a3, c3⟩ G D p q1 q2 k1 k2 i wr) (fun i _ => G.terms.length + 1 - (intOf i).toNat)
      case atStart => exact ⟨0, by omega, rfl, S0.out⟩
      case round =>
        clear S0
        obtain ⟨k, hk, rfl, hS⟩ := hrel
        have S := Lib.hid hS
        clear hS
        obtain ⟨x0, x1, x2, x3⟩ := S.out.x.box
        try dsimp only at x0 x1 x2 x3
        by_cases hlt : k < G.terms.length + 1
        · have hkn : k < top G + 1 := by have := TP.out; omega
          have hjf : Jn (top G + 1) (.f k) := hkn
          obtain ⟨y0, y1, y2, y3, y4, y5, y6⟩ := seven S.out.s.box
          have z1 := S.out.s.begins k hkn
          have z2 := (S.out.s.fam.at_ _ hjf).at_ k hlt
          have zf := (S.out.s.fam.at_ _ hjf).free k
          obtain ⟨r1, r2⟩ := S.out.s.setv hjf (s := k) hlt true
          have S1 := Lib.hid (S.out.fr r2 (r1.eq (tabFk_step k tabC0 nof)))
          have hd : decide ((k : Int) ≤ (G.terms.length : Int)) = true := decide_eq_true (by omega)
          clear r1 r2
          go_wp2
          go_roundw
          case rel => exact ⟨k + 1, by omega, by go_num, S1.out⟩
          case measure => simp [intOf]; omega
        · have hE : k = G.terms.length + 1 := by omega
          have S1 := Lib.hid (show OSt w ⟨a1, c1, a2, c2, a3, c3⟩ G D p q1 q2 k1 k2 tabC0 (tabF0 G) nof wr by
            have := S.out
            rwa [hE, tabFk_end] at this)
          have hd : decide ((k : Int) ≤ (G.terms.length : Int)) = false := decide_eq_false (by omega)
          clear S hE
          go_wp2
          have hz : decide (k ≤ G.terms.length) = false := decide_eq_false (by omega)
          try rw [hz]
          clear x0 x1 x2 x3 hd hlt hk hz
          have TK0 := Lib.hid (tok_nof (G := G))
          go_loopg [6] (missCF tabC0 (tabF0 G) (G.terms.length + 1) (top G + 1) + 2) (fun g m wr => O2Out w ⟨a1, c1, a2, c2, a3, c3⟩ G D p q1 q2 k1 k2 g m wr)
          case atStart => exact ⟨tabC0, tabF0 G, true, rfl, S1.out, TK0.out, snd0 G, leaf0 G, (fun _ => by omega), fun h => by cases h⟩
          case round =>
            clear S1
            obtain ⟨C0, F0, b, rfl, hS, hok, hsn, hlf, hg, hju⟩ := hrel
            have S := Lib.hid hS
            have OK := Lib.hid hok
            cases b with
            | false =>
              have hJ := hju rfl
              obtain ⟨rfl, rfl⟩ := hJ.eq
              clear hsn hlf hg hju hJ hS hok
              obtain ⟨s, hs1, hs2, hs3⟩ : ∃ s : Nat, G.start = (s : Int) ∧ G.terms.length < s ∧ s < top G + 1 := ⟨G.start.toNat, by have := nonB_iff.1 (start_non SM.out.known); omega, by have := nonB_iff.1 (start_non SM.out.known); omega, by have := nonB_iff.1 (start_non SM.out.known); have := TP.out; omega⟩
              have hjg : Jn (top G + 1) (.g s) := hs3
              obtain ⟨x0, x1, x2, x3⟩ := S.out.x.box
              try dsimp only at x0 x1 x2 x3
              obtain ⟨y0, y1, y2, y3, y4, y5, y6⟩ := seven S.out.s.box
              have z6 := S.out.s.behind s hs3
              have ze : wr.cell? ⟨D (.g s), 0, none⟩ = some (.bool false) := (S.out.s.fam.at_ _ hjg).at_ 0 (by show 0 < G.terms.length + 1; omega)
              have zf := (S.out.s.fam.at_ _ hjg).free 0
              have SD := Lib.hid (S.out.went (drawn wr))
              obtain ⟨st1, st2⟩ := SD.out.s.setv hjg (s := 0) (by show 0 < G.terms.length + 1; omega) true
              have S7 := Lib.hid (SD.out.fr st2 (st1.eq (fol_set hs1)))
              have OK7 := Lib.hid (tok0 SM.out.known (C := canB G) (rng_can SM.out.known))
              have OK8 := Lib.hid (show TOk G.terms.length (top G + 1) (canB G) (fstB G) (tabB0 G) from ⟨OK.out.c, OK.out.f1, OK.out.f2, OK7.out.b1, OK7.out.b2⟩)
              rw [hs1] at x3
              have hs0 : (0 : Int) ≤ (s : Int) := by omega
              have hsn : (s : Int) < (top G : Int) + 1 := by omega
              clear SD st1 st2 OK7 S
              go_wp2_with fail
              go_still_tail 9, (by kernel_rfl)
              repeat still_step
              try refine wpStill_nil ?_
              try change wpList _ _ _ _ _ wr.drew
              go_wp2
              clear x0 x1 x2 x3 y0 y1 y2 y3 y4 y5 y6 z6 ze zf hs1 hs0 hsn hs2 hs3 hjg
              go_loopg [11] (missT (tabB0 G) (G.terms.length + 1) (top G + 1) + 2) (fun g m wr => O3Out w ⟨a1, c1, a2, c2, a3, c3⟩ G D p q1 q2 k1 k2 g m wr)
              case atStart => exact ⟨tabB0 G, true, rfl, S7.out, OK8.out, (bsnd0 G).1, (bsnd0 G).2, (fun _ => by omega), fun h => by cases h⟩
              case round =>
                clear S7 OK8 OK
                obtain ⟨B0, b, rfl, hS, hok, hbs, hb0, hg, hfo⟩ := hrel
                have S := Lib.hid hS
                have OK := Lib.hid hok
                cases b with
                | false =>
                  have e := hfo rfl
                  subst e
                  clear hbs hb0 hg hfo hS hok
                  go_wp2
                  go_ret
                  refine ⟨_, rfl, .inr ⟨AN.out.1, D, p, q1, q2, k1, k2, rfl, ?_⟩, S.out.x.below⟩
                  rw [AN.out.2.1, AN.out.2.2.1, AN.out.2.2.2]
                  exact S.out.s
                | true =>
                  have GG := Lib.hid (hg rfl)
                  have V0 := Lib.hid (triedB_zero (n := top G + 1) (C := canB G) (F := fstB G) hbs hb0)
                  clear hbs hb0 hg hfo hS hok
                  go_wp2
                  go_loopw [11, 12] (fun m i wr => O3In w ⟨a1, c1, a2, c2, a3, c3⟩ G D p q1 q2 k1 k2 B0 m i wr) (fun _ i _ => G.rules.length - (intOf i).toNat)
                  case atStart => exact ⟨0, B0, false, Nat.zero_le _, rfl, rfl, S.out, OK.out, V0.out⟩
                  case round =>
                    clear S OK V0
                    obtain ⟨j, B, b, hj, rfl, rfl, hS, hok, hV⟩ := hrel
                    have S := Lib.hid hS
                    have OK := Lib.hid hok
                    have V := Lib.hid hV
                    clear hS hok hV
                    obtain ⟨x0, x1, x2, x3⟩ := S.out.x.box
                    try dsimp only at x0 x1 x2 x3
                    by_cases hlr : j < G.rules.length
                    · have hm := List.getElem_mem hlr
                      have hl := nonB_iff.1 (left_non SM.out.known hm)
                      obtain ⟨b2, o2, ra, rc, e3, h1, h2, h3, h4, h5⟩ := KG.out.rules j hlr
                      try dsimp only at e3
                      subst e3
                      have LOK := Lib.hid (lok_rule SM.out hlr h4)
                      have g1 := cell_later S.out.x.below h1
                      have g2 := cell_later S.out.x.below h2
                      have hrl := SM.out.r
                      have hr1 := KG.out.r1
                      try dsimp only at hr1
                      have BC := Lib.hid (fun (s : Nat) (R : List Int) (hr : G.rules[j] = ((s : Int), R)) (hs : s < top G + 1) hR hL => behind_at w wr KG.out S.out.s OK.out S.out.x.below (fun k hk => Nat.le_of_lt (S.out.lo k hk)) rfl j hlr b V.out s R hr hs ra rc hR hL)
                      clear h1 h2 h4 h5 hm
                      generalize G.rules[j] = r at *
                      obtain ⟨left, R⟩ := r
                      dsimp only at g1 g2 hl LOK h3
                      obtain ⟨s, rfl⟩ : ∃ s : Nat, left = (s : Int) := ⟨left.toNat, by omega⟩
                      have hsn : s < top G + 1 := by have := TP.out; omega
                      have BC2 := Lib.hid (BC.out s R rfl hsn h3 LOK.out)
                      clear BC h3 hl
                      go_wp2_with fail
                      refine BC2.out.mono ?_
                      rintro e w5 ⟨b1, B', rfl, ht5, hok5, hs5, hf5⟩
                      have S5 := Lib.hid (S.out.fr hf5 hs5)
                      have OK5 := Lib.hid hok5
                      have T5 := Lib.hid ht5
                      clear ht5 hok5 hs5 hf5 x0 x1 x2 x3 g1 g2 BC2 S OK V
                      cases b1 with
                      | false =>
                        have R5 := Lib.hid (show TriedB G (top G + 1) (canB G) (fstB G) B0 (j + 1) 0 B' b by have := T5.out; rwa [Bool.or_false] at this)
                        clear T5
                        go_wp2
                        go_roundw
                        case rel => exact ⟨j + 1, B', b, by omega, by go_num, rfl, S5.out, OK5.out, R5.out⟩
                        case measure => simp [intOf]; omega
                      | true =>
                        have R5 := Lib.hid (show TriedB G (top G + 1) (canB G) (fstB G) B0 (j + 1) 0 B' true by have := T5.out; rwa [Bool.or_true] at this)
                        clear T5
                        go_wp2
                        go_roundw
                        case rel => exact ⟨j + 1, B', true, by omega, by go_num, rfl, S5.out, OK5.out, R5.out⟩
                        case measure => simp [intOf]; omega
                    · have E := Lib.hid (show b = false → B = folB G from fun e => by have := V.out; subst e; exact fol_eq (this.all (just_b G) hlr))
                      have SN := Lib.hid V.out.snd
                      have S0' := Lib.hid V.out.start
                      have YS := Lib.hid (show b = true → missT B (G.terms.length + 1) (top G + 1) < missT B0 (G.terms.length + 1) (top G + 1) from fun e => V.out.yes e)
                      have hgg := GG.out
                      go_wp2
                      go_roundg (missT B0 (G.terms.length + 1) (top G + 1))
                      case measure => omega
                      case rel => exact ⟨B, b, rfl, S.out, OK.out, SN.out, S0'.out, (fun e => by have := YS.out e; omega), E.out⟩
            | true =>
              have GG := Lib.hid (hg rfl)
              have V0 := Lib.hid (show TriedF G (top G + 1) C0 F0 0 C0 F0 false from ⟨hsn, hlf, fun _ => ⟨⟨rfl, rfl⟩, fun i _ hi => absurd hi (by omega)⟩, fun h => by cases h⟩)
              clear hsn hlf hg hju hS hok
              go_wp2
              go_loopw [6, 7] (fun m i wr => O2In w ⟨a1, c1, a2, c2, a3, c3⟩ G D p q1 q2 k1 k2 C0 F0 m i wr) (fun _ i _ => G.rules.length - (intOf i).toNat)
              case atStart => exact ⟨0, C0, F0, false, Nat.zero_le _, rfl, rfl, S.out, OK.out, V0.out⟩
              case round =>
                clear S OK V0
                obtain ⟨j, C, F, b, hj, rfl, rfl, hS, hok, hV⟩ := hrel
                have S := Lib.hid hS
                have OK := Lib.hid hok
                have V := Lib.hid hV
                clear hS hok hV
                obtain ⟨x0, x1, x2, x3⟩ := S.out.x.box
                try dsimp only at x0 x1 x2 x3
                by_cases hlr : j < G.rules.length
                · have hm := List.getElem_mem hlr
                  have hl := nonB_iff.1 (left_non SM.out.known hm)
                  have LF := lefts_of SM.out.known
                  obtain ⟨b2, o2, ra, rc, e3, h1, h2, h3, h4, h5⟩ := KG.out.rules j hlr
                  try dsimp only at e3
                  subst e3
                  have LOK := Lib.hid (lok_rule SM.out hlr h4)
                  have g1 := cell_later S.out.x.below h1
                  have g2 := cell_later S.out.x.below h2
                  have RD := Lib.hid (fun w4 (b : Below w.heap.size w w4) => Sep.Reads.below h3 b (Nat.le_refl _))
                  have G1 := Lib.hid (fun w4 (b : Below w.heap.size w w4) => cell_later b h1)
                  have ST := Lib.hid (fun c hc => V.out.step LF hlr (c := c) hc)
                  have hrl := SM.out.r
                  have hr1 := KG.out.r1
                  try dsimp only at hr1
                  clear h1 h2 h3 h4 h5 hm LF
                  generalize G.rules[j] = r at *
                  obtain ⟨left, R⟩ := r
                  dsimp only at g1 g2 hl LOK RD G1 ST
                  obtain ⟨s, rfl⟩ : ∃ s : Nat, left = (s : Int) := ⟨left.toNat, by omega⟩
                  have hsn : s < top G + 1 := by have := TP.out; omega
                  have hjf : Jn (top G + 1) (.f s) := hsn
                  have hje : Jn (top G + 1) .e := trivial
                  have BC := Lib.hid (begins_at wr S.out.s OK.out R ra rc (RD.out _ S.out.x.below) LOK.out)
                  have LR := Lib.hid (lineB_rng (C := C) OK.out.f1 R)
                  have OK2 := Lib.hid (TOk.addCF OK.out (r := ((s : Int), R)) (by show (0 : Int) ≤ (s : Int); omega) (by show (s : Int) < ((top G + 1 : Nat) : Int); omega))
                  have ST2 := Lib.hid (show ∀ b1 m : Bool, (b1 = true ↔ ∃ i : Nat, rw' (lineB C F R) i = true ∧ rw' (F (s : Int)) i = false) → m = (b || (b1 || (allC C R && !C (s : Int)))) → TriedF G (top G + 1) C0 F0 (j + 1) (addC C ((s : Int), R)) (addF C F ((s : Int), R)) m from fun b1 m hb hm => by
                    rw [hm]
                    refine ST.out _ ?_
                    unfold grows
                    dsimp only
                    rw [Bool.or_eq_true, Bool.and_eq_true, hb, ex_nat (m := 0) (fun t ht => (LR.out t ht.1).1)]
                    simp [rw'])
                  have hi0 : (0 : Int) ≤ (j : Int) := by omega
                  have hi1 : (j : Int) < (G.rules.length : Int) := by omega
                  have hs0 : (0 : Int) ≤ (s : Int) := by omega
                  have hs1 : (s : Int) < (top G : Int) + 1 := by omega
                  have hdl : D (.f s) < wr.heap.size := (S.out.s.fam.at_ _ hjf).lt
                  unfold BegEnd at BC
                  clear ST V hl
                  go_wp2_with fail
                  refine BC.out.mono ?_
                  rintro e w5 ⟨dN, rfl, hr5, hd5, hb⟩
                  have S5 := Lib.hid (S.out.went hb)
                  have PC := Lib.hid (put_other (D (.f s)) dN (G.terms.length + 1) (G.terms.length + 1) (G.terms.length + 1) (rw' (F (s : Int))) (rw' (lineB C F R)) w5 (S5.out.s.fam.at_ _ hjf) hr5 (by omega) (fun i hi => by have := (LR.out _ hi).2; omega) (by omega))
                  have g5 := G1.out _ S5.out.x.below
                  clear BC S hr5 hd5 hb x0 x1 x2 x3 g1 g2
                  obtain ⟨x0, x1, x2, x3⟩ := S5.out.x.box
                  try dsimp only at x0 x1 x2 x3
                  obtain ⟨y0, y1, y2, y3, y4, y5, y6⟩ := seven S5.out.s.box
                  have z5 := S5.out.s.begins s hsn
                  have CS := Lib.hid (fun w6 (k : RAt D p q1 q2 k1 k2 (top G + 1) ⟨a1, c1, a2, c2, some ⟨b2, o2, none⟩, c3⟩ G (tv C (addF C F ((s : Int), R)) nof no0) w6) => k.setv hje (s := s) hsn (C (s : Int) || allC C R))
                  have CE := Lib.hid (can_set (C := C) (F := addF C F ((s : Int), R)) (B := nof) (s := s) (R := R))
                  have ZE := Lib.hid (fun w6 (k : RAt D p q1 q2 k1 k2 (top G + 1) ⟨a1, c1, a2, c2, some ⟨b2, o2, none⟩, c3⟩ G (tv C (addF C F ((s : Int), R)) nof no0) w6) => show w6.cell? ⟨D .e, s, none⟩ = some (.bool (C (s : Int))) from (k.fam.at_ _ hje).at_ s hsn)
                  have FE := Lib.hid (show upd (tv C F nof no0) (.f s) (fun i => rw' (F (s : Int)) i || rw' (lineB C F R) i) = tv C (addF C F ((s : Int), R)) nof no0 from tv_f (by funext i; unfold rw' addF; dsimp only; rw [decide_eq_true rfl, Bool.true_and]) (fun x hx => by funext t; unfold addF; dsimp only; rw [decide_eq_false hx]; simp))
                  generalize allC C R = al at *
                  generalize C (s : Int) = cs at *
                  cases al <;> cases cs
                  all_goals
                    go_wp2_with fail
                    refine PC.out.mono ?_
                    rintro e w6 ⟨b1, rfl, hg1, hr6, hk6⟩
                    have R6 := (S5.out.s.wrote hjf hr6 hk6).eq FE.out
                    have S6 := Lib.hid (S5.out.fr (fr_keeps hjf hk6) R6)
                    have G6 := Lib.hid hg1
                    have SD := Lib.hid (S6.out.went (drawn w6))
                    obtain ⟨st1, st2⟩ := CS.out _ SD.out.s
                    have S7 := Lib.hid (SD.out.fr st2 (st1.eq CE.out))
                    have ze := ZE.out _ S6.out.s
                    have zf := (S6.out.s.fam.at_ _ hje).free s
                    clear R6 hr6 hk6 hg1 y0 y1 y2 y3 y4 y5 y6 z5 x0 x1 x2 x3 PC SD st1 st2 g5
                    obtain ⟨y0, y1, y2, y3, y4, y5, y6⟩ := seven S6.out.s.box
                    cases b1
                    all_goals
                      have ST3 := Lib.hid (fun m hm => ST2.out _ m G6.out hm)
                      clear G6 ST2
                      go_wp2_with fail
                      go_still_tail 16, (by kernel_rfl)
                      repeat still_step
                      try refine wpStill_nil ?_
                      try change wpList _ _ _ _ _ w6.drew
                      go_wp2
                      go_roundw
                      case rel => exact ⟨j + 1, _, _, _, by omega, by go_num, rfl, S7.out, OK2.out, ST3.out _ (by cases b <;> rfl)⟩
                      case measure => simp [intOf]; omega
                · have E := Lib.hid (show b = false → Just G C F from fun e => by have := V.out; subst e; exact this.all hlr)
                  have SN := Lib.hid V.out.snd
                  have LF := Lib.hid V.out.leaf
                  have YS := Lib.hid (show b = true → missCF C F (G.terms.length + 1) (top G + 1) < missCF C0 F0 (G.terms.length + 1) (top G + 1) from fun e => V.out.yes e)
                  have hgg := GG.out
                  go_wp2
                  go_roundg (missCF C0 F0 (G.terms.length + 1) (top G + 1))
                  case measure => omega
                  case rel => exact ⟨C, F, b, rfl, S.out, OK.out, SN.out, LF.out, (fun e => by have := YS.out e; omega), E.out⟩
  · have AN := Lib.hid (show nlB G = true ∧ ansC G = (fun _ => false) ∧ ansF G = (fun _ _ => false) ∧ ansB G = (fun _ _ => false) from ⟨by unfold nlB; rw [decide_eq_false hc]; rfl, by unfold ansC; rw [if_neg hc], by unfold ansF; rw [if_neg hc], by unfold ansB; rw [if_neg hc]⟩)
    have hb : (checkN G != 0) = true := by simpa using hc
    clear k hc
    generalize checkN G = ck at *
    unfold gv
    dsimp only
    go_enter Tryz.func7, Tryz.ntmps7
    go_wp2_with (go_at_call 24; refine (C.out _ X.out.below).mono ?_; rintro e w1 ⟨rfl, hb⟩; have X1 := Lib.hid (X.out.went hb); clear hb)
    go_ret
    exact ⟨_, rfl, .inl ⟨AN.out.1, rfl, AN.out.2⟩, X1.out.below⟩

end Go.Proofs.YtoipinnfmjaaaaaGreatDoor.Fr
