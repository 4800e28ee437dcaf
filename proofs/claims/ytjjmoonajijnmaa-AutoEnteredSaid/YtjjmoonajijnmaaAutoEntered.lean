/-
  The walk of the statement on the symbols by which states are entered. No condition.
-/
import Derived.Test.YtjjmoonajijnmaaAutoEnters
import Derived.Test.YtjjmoonajijnmaaAutoEnt
import Derived.Test.YtjjmoonajijnmaaAutoAwake
import Derived.Test.YtjjmoonajijnmaaMMuch
namespace Go.Proofs.Ytjjmoonajijnmaa.Au
open Go.RowKit Go.Maps
open Go.Proofs.Ytjjmoonajijnmaa.Gr (Gram Sh gv GAt Box Bx checkN top boxed drawn much_any cell_new cell_old cell_later bool_of)
open Go.Proofs.Ytjjmoonajijnmaa.Im
set_option linter.unusedVariables false

/-- State i's two cells. -/
theorem sta_at {b o : Nat} {X : List Sta} {w : World} (h : StaA (some ⟨b, o, none⟩) X w) {i : Nat} (hi : i < X.length) :
    ∃ a1 c1 a2 c2, w.cell? ⟨b, o + i * 2, none⟩ = some (.slice a1 X[i].1.length c1) ∧ w.cell? ⟨b, o + i * 2 + 1, none⟩ = some (.slice a2 X[i].2.length c2) ∧ ItsA a1 X[i].1 w ∧ ItsA a2 X[i].2 w := by
  obtain ⟨b', o', a1, c1, a2, c2, e, h1, h2, h3, h4, _, _⟩ := h i hi
  simp only [Option.some.injEq, Addr.mk.injEq, and_true] at e
  obtain ⟨rfl, rfl⟩ := e
  exact ⟨a1, c1, a2, c2, h1, h2, h3, h4⟩

set_option maxRecDepth 100000 in
set_option maxHeartbeats 8000000 in
theorem entered_law (h : Sh) (G : Gram) (w : World) (k : GAt h G w) :
    Calls Try.prog 4 #[gv h G] w (Gr.Is (.bool true) w) := by
  have X0 := Lib.hid (Bx.start h G w 36)
  have MU := Lib.hid (fun w1 (b : Below w.heap.size w w1) => much_any h G w1 (k.went b))
  have BU := Lib.hid (fun w1 (b : Below w.heap.size w w1) => build_any h G w1 (k.went b) (fun hv => Nat.le_trans (top_small hv) (by omega)))
  have AW := Lib.hid awake_any
  have KG := Lib.hid (fun w1 (b : Below w.heap.size w w1) => k.went b)
  clear k
  obtain ⟨x0, x1, x2, x3⟩ := X0.out.box
  unfold gv at *
  go_enter Try.func4, Try.ntmps4
  go_wp2_with fail
  refine (MU.out _ X0.out.below).mono ?_
  rintro e w1 ⟨n, rfl, hn, hb⟩
  have X1 := Lib.hid (X0.out.went hb)
  clear hb MU hn x0 x1 x2 x3 X0
  obtain ⟨x0, x1, x2, x3⟩ := X1.out.box
  by_cases hn9 : 60 < n
  · go_wp2_with (go_at_call 6; refine (AW.out _).mono ?_; rintro e w2 ⟨rfl, hb⟩; have HB := Lib.hid (Gr.step X1.out.below hb); clear hb)
    go_ret
    exact ⟨rfl, HB.out⟩
  go_wp2_with fail
  refine (BU.out _ X1.out.below).mono ?_
  rintro e w2 ⟨X, er, a, c, rfl, hbu, hX, hc, hb⟩
  have X2 := Lib.hid (X1.out.went hb)
  have SX := Lib.hid (fun w3 (b : Below w2.heap.size w2 w3) => hX.went b)
  clear hb hX x0 x1 x2 x3 X1 BU
  by_cases he : er = 0
  · subst he
    have hE := ent_of hbu
    have E := Lib.hid hE
    have hxl := hE.len
    clear hbu hE
    have EN := Lib.hid (fun w1 (b : Below w.heap.size w w1) (L : List Itm) (al : Option Addr) (cl : Nat) (s : Int) (kl : ItsA al L w1) (hL : L.length ≤ 1000000) (he : ∀ x ∈ L, entersB G s x) => enters_any h G E.out.hv L al cl s w1 (KG.out w1 b) kl hL he)
    unfold gv at EN
    clear KG
    have R0 := Lib.hid (show Bx w h G w2 ∧ Below w2.heap.size w2 w2 from ⟨X2.out, .refl _ _⟩)
    go_wp2_with fail
    go_loopw [5, 6, 7, 8, 9] (fun i _ _ _ _ wr => ∃ n : Nat, i = .int .i64 n ∧ n ≤ X.length ∧ Bx w h G wr ∧ Below w2.heap.size w2 wr) (fun i _ _ _ _ _ => X.length - (intOf i).toNat)
    case atStart => exact ⟨0, rfl, Nat.zero_le _, R0.out⟩
    case round =>
      obtain ⟨i, rfl, hi, hR⟩ := hrel
      have R := Lib.hid hR
      clear hR R0
      by_cases hil : i < X.length
      · obtain ⟨b0, o0, _, _, _, _, ea, _⟩ := SX.out _ (.refl _ _) i hil
        subst ea
        have D0 := Lib.hid (show decide ((i : Int) = 0) = true ∨ decide ((i : Int) = 0) = false from by cases decide ((i : Int) = 0) <;> simp)
        have Z0 := Lib.hid (show Seen X i 0 0 → decide ((i : Int) = 0) = true from fun q => decide_eq_true (by have := seen_zero q; omega))
        go_wp2_with fail
        go_loopw [6, 7, 8, 9] (fun e k _ _ wx => ∃ (m : Nat) (b : Bool), e = .bool b ∧ k = .int .i64 m ∧ m ≤ X.length ∧ (Seen X i m 0 → b = true) ∧ Bx w h G wx ∧ Below w2.heap.size w2 wx) (fun _ k _ _ _ => X.length - (intOf k).toNat)
        case atStart => exact ⟨0, _, rfl, rfl, Nat.zero_le _, Z0.out, R.out⟩
        case round =>
          obtain ⟨m, b, rfl, rfl, hm, hS, hR⟩ := hrel
          have S := Lib.hid hS
          clear R
          have R := Lib.hid hR
          clear hS hR
          by_cases hml : m < X.length
          · have SR := Lib.hid (seen_row (i := i) hml)
            go_wp2_with fail
            go_loopw [6, 8, 9] (fun e j _ wy => ∃ (q : Nat) (b : Bool), e = .bool b ∧ j = .int .i64 q ∧ q ≤ X[m].2.length ∧ (Seen X i m q → b = true) ∧ Bx w h G wy ∧ Below w2.heap.size w2 wy) (fun _ j _ _ => X[m].2.length - (intOf j).toNat)
            case atStart => exact ⟨0, _, rfl, rfl, Nat.zero_le _, S.out, R.out⟩
            case round =>
              obtain ⟨q, b', rfl, rfl, hq, hS', hR'⟩ := hrel
              have S' := Lib.hid hS'
              have R' := Lib.hid hR'
              clear hS' hR' S R
              obtain ⟨a1, c1, a2, c2, z1, z2, i1, i2⟩ := sta_at (SX.out wr R'.out.2) hml
              have SXr := Lib.hid (fun w3 (b : Below wr.heap.size wr w3) => sta_at (SX.out w3 (Gr.step R'.out.2 b)) hil)
              by_cases hql : q < X[m].2.length
              · obtain ⟨n', hn1, hn2, hn3⟩ := E.out.to m hml q hql
                have SM := Lib.hid (seen_miss (i := i) hml hql)
                have SH := Lib.hid (seen_hit (X := X) (i := i) (k := m) (j := q))
                obtain ⟨b2, o2, rfl, p0, p1⟩ := i2.at q hql
                have hil1 : X[i].1.length ≤ 1000000 := E.out.small.items _ (List.getElem_mem hil)
                have htr := E.out.small.trans _ (List.getElem_mem hml)
                generalize X[m].2[q] = x at *
                obtain ⟨xs, xt⟩ := x
                dsimp only at hn1 hn3 p0 p1
                subst hn1
                clear SR SX
                have hRb := Lib.hid (show Bx w h G (wr.alloc (.cells #[.int .i64 xs, .int .i64 (n' : Int)] 42)) ∧ Below w2.heap.size w2 (wr.alloc (.cells #[.int .i64 xs, .int .i64 (n' : Int)] 42)) from ⟨R'.out.1.alloc _, Gr.step R'.out.2 (boxed _ _)⟩)
                generalize X[m].2 = tr at *
                by_cases hni : n' = i
                · subst hni
                  obtain ⟨wb, hwb⟩ : ∃ wb, wr.alloc (.cells #[.int .i64 xs, .int .i64 (n' : Int)] 42) = wb := ⟨_, rfl⟩
                  have y0 : wb.cell? ⟨wr.heap.size, 0, none⟩ = some (.int .i64 xs) := by rw [← hwb]; exact cell_new rfl rfl
                  have y1 : wb.cell? ⟨wr.heap.size, 1, none⟩ = some (.int .i64 (n' : Int)) := by rw [← hwb]; exact cell_new rfl rfl
                  have hbb : Below wr.heap.size wr wb := by rw [← hwb]; exact boxed _ _
                  obtain ⟨a3, c3, a4, c4, v1, v2, v3, v4⟩ := SXr.out wb hbb
                  rw [hwb] at hRb
                  have EC := Lib.hid (fun w1 (b : Below wb.heap.size wb w1) => EN.out w1 (Gr.step hRb.out.1.below b) X[n'].1 a3 c3 xs (v3.went b) hil1 hn3)
                  have HQ := Lib.hid (fun w' (b : Below wb.heap.size wb w') => (show w'.cell? ⟨w.heap.size, 0, none⟩ = _ ∧ w'.cell? ⟨w.heap.size, 1, none⟩ = _ ∧ w'.cell? ⟨w.heap.size, 2, none⟩ = _ ∧ w'.cell? ⟨w.heap.size, 3, none⟩ = _ ∧ w'.cell? ⟨b0, o0 + n' * 2, none⟩ = some (.slice a3 X[n'].1.length c3) ∧ w'.cell? ⟨wr.heap.size, 0, none⟩ = some (.int .i64 xs) from ⟨(hRb.out.1.went b).box.x0, (hRb.out.1.went b).box.x1, (hRb.out.1.went b).box.x2, (hRb.out.1.went b).box.x3, cell_later b v1, cell_later b y0⟩))
                  have kA := drawn wb
                  clear SXr v1 v2 v3 v4 hbb hn3 EN
                  generalize X[n'].1 = its at *
                  obtain ⟨b3, hb3, hS3⟩ : ∃ b3 : Bool, (b' = true ∧ b3 = true ∨ b' = false ∧ b3 = decide ((m : Int) < (n' : Int))) ∧ (Seen X n' m (q + 1) → b3 = true) := by
                    cases hbb' : b' with
                    | true => exact ⟨true, .inl ⟨rfl, rfl⟩, fun _ => rfl⟩
                    | false =>
                      refine ⟨_, .inr ⟨rfl, rfl⟩, fun t => decide_eq_true ?_⟩
                      rcases SH.out t with u | u
                      · have := S'.out u
                        rw [hbb'] at this
                        cases this
                      · omega
                  have S3 := Lib.hid hS3
                  clear hS3 S' SM SH
                  rcases hb3 with ⟨rfl, rfl⟩ | ⟨rfl, rfl⟩
                  all_goals
                    go_wp2_with fail
                    go_region_held3 (fun w' => w'.cell? ⟨w.heap.size, 0, none⟩ = some (.slice h.a1 G.terms.length h.c1) ∧ w'.cell? ⟨w.heap.size, 1, none⟩ = some (.slice h.a2 G.nons.length h.c2) ∧ w'.cell? ⟨w.heap.size, 2, none⟩ = some (.slice h.a3 G.rules.length h.c3) ∧ w'.cell? ⟨w.heap.size, 3, none⟩ = some (.int .i64 G.start) ∧ w'.cell? ⟨b0, o0 + n' * 2, none⟩ = some (.slice a3 its.length c3) ∧ w'.cell? ⟨wr.heap.size, 0, none⟩ = some (.int .i64 xs))
                      (exact HQ.out _ (by assumption))
                      (first
                        | (go_at_call 15; refine (EC.out _ kA).mono ?_; rintro e w5 ⟨rfl, hb⟩; have k5 : Below wb.heap.size wb w5 := Gr.step kA hb; clear hb)
                        | fail)
                    have R5 := Lib.hid (show Bx w h G w5 ∧ Below w2.heap.size w2 w5 from ⟨hRb.out.1.went k5, Gr.step hRb.out.2 k5⟩)
                    clear hRb EC HQ kA
                    go_wp2_with fail
                    go_roundw
                    case rel => exact ⟨q + 1, _, rfl, by go_num, by omega, (fun t => by first | rfl | (have t2 := S3.out t; simpa using t2)), R5.out⟩
                    case measure => simp [intOf]; omega
                · have S2 := Lib.hid (show Seen X i m (q + 1) → b' = true from fun t => S'.out (SM.out (by dsimp only; omega) t))
                  clear S' SM SH hn3
                  have hni' : ((n' : Int) != (i : Int)) = true := by simp only [bne_iff_ne, ne_eq]; omega
                  go_wp2_with fail
                  go_roundw
                  case rel => exact ⟨q + 1, b', rfl, by go_num, by omega, S2.out, hRb.out⟩
                  case measure => simp [intOf]; omega
              · have hE : q = X[m].2.length := by omega
                have S2 := Lib.hid (show Seen X i (m + 1) 0 → b' = true from fun t => S'.out (by rw [hE]; exact SR.out t))
                clear S' SR
                generalize X[m].2 = tr at *
                generalize X[m].1 = its at *
                go_wp2_with fail
                go_roundw
                case rel => exact ⟨m + 1, b', rfl, by go_num, by omega, S2.out, R'.out⟩
                case measure => simp [intOf]; omega
          · have hE : m = X.length := by omega
            have hbt : b = true := S.out (by rw [hE]; exact seen_all E.out hil)
            subst hbt
            have hne := E.out.some i hil
            obtain ⟨a1, c1, a2, c2, z1, z2, i1, i2⟩ := sta_at (SX.out wr R.out.2) hil
            have hnz : 0 < X[i].1.length := List.length_pos_iff.2 hne
            clear S hne i1 i2
            generalize X[i].1 = its at *
            generalize X[i].2 = tr at *
            go_wp2_with fail
            go_roundw
            case rel => exact ⟨i + 1, by go_num, by omega, R.out⟩
            case measure => simp [intOf]; omega
      · have hE : i = X.length := by omega
        subst hE
        go_wp2_with (go_at_call 6; refine (AW.out _).mono ?_; rintro e w3 ⟨rfl, hb⟩; have HB := Lib.hid (Gr.step R.out.1.below hb); clear hb)
        go_ret
        exact ⟨rfl, HB.out⟩
  · have hXn := none_of hbu he
    subst hXn
    have heb : (er != 0) = true := by simpa using he
    clear SX hbu he KG
    go_wp2_with (go_at_call 6; refine (AW.out _).mono ?_; rintro e w3 ⟨rfl, hb⟩; have HB := Lib.hid (Gr.step X2.out.below hb); clear hb)
    go_ret
    exact ⟨rfl, HB.out⟩

end Go.Proofs.Ytjjmoonajijnmaa.Au
