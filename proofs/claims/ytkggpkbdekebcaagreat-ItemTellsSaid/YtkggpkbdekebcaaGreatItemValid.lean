/-
  Package item: valid: the right items of a list, as a set.
-/
import Derived.Test.YtkggpkbdekebcaaGreatGramCheck
import Derived.Test.YtkggpkbdekebcaaGreatItemLeaf
namespace Go.Proofs.YtkggpkbdekebcaaGreat.Im
open Go.RowKit Go.Maps
open Go.Proofs.YtkggpkbdekebcaaGreat.Gr (Gram Sh gv GAt Bx step boxed drawn checkN check_any cell_new cell_old cell_later free_new free_old bool_of int_of)
set_option linter.unusedVariables false

theorem bx_fr {W w w' : World} {h : Sh} {G : Gram} {S : Nat → Prop} (k : Bx W h G w) (f : Sep.Fr S w w') (hS : ∀ i, S i → W.heap.size + 1 ≤ i) : Bx W h G w' := by
  have hn : ¬ S W.heap.size := fun h => by have := hS _ h; omega
  exact ⟨k.below.trans (f.below (fun i hi => by have := hS i hi; omega) k.below.size), ⟨f.cell k.box.x0 hn, f.cell k.box.x1 hn, f.cell k.box.x2 hn, f.cell k.box.x3 hn⟩⟩

/-- The right items of the first j. -/
def VTo (G : Gram) (L : List Itm) (j : Nat) (x : Itm) : Prop := ∃ q, ∃ h : q < L.length, q < j ∧ x = L[q] ∧ rightB G L[q] = true
theorem vto_zero {G : Gram} {L : List Itm} {x : Itm} : VTo G L 0 x ↔ False := ⟨fun ⟨_, _, h, _⟩ => by omega, False.elim⟩
theorem vto_hit {G : Gram} {L : List Itm} {j : Nat} (hj : j < L.length) (hr : rightB G L[j] = true) (x : Itm) : VTo G L j x ∨ x = L[j] ↔ VTo G L (j + 1) x := by
  constructor
  · rintro (⟨q, h1, h2, h3⟩ | e)
    · exact ⟨q, h1, by omega, h3⟩
    · exact ⟨j, hj, by omega, e, hr⟩
  · rintro ⟨q, h1, h2, h3, h4⟩
    by_cases e : q = j
    · subst e
      exact .inr h3
    · exact .inl ⟨q, h1, by omega, h3, h4⟩
theorem vto_miss {G : Gram} {L : List Itm} {j : Nat} (hj : j < L.length) (hr : ¬ rightB G L[j] = true) (x : Itm) : VTo G L j x ↔ VTo G L (j + 1) x := by
  constructor
  · rintro ⟨q, h1, h2, h3⟩
    exact ⟨q, h1, by omega, h3⟩
  · rintro ⟨q, h1, h2, h3, h4⟩
    by_cases e : q = j
    · subst e
      exact absurd h4 hr
    · exact ⟨q, h1, by omega, h3, h4⟩
theorem vto_all {G : Gram} {L : List Itm} (x : Itm) : VTo G L L.length x ↔ x ∈ L ∧ rightB G x = true := by
  constructor
  · rintro ⟨q, h1, _, h3, h4⟩
    subst h3
    exact ⟨List.getElem_mem h1, h4⟩
  · rintro ⟨h1, h2⟩
    obtain ⟨q, hq, rfl⟩ := List.getElem_of_mem h1
    exact ⟨q, hq, hq, rfl, h2⟩

/-- The right items of a list, of a grammar that may be. -/
def VSet (G : Gram) (L : List Itm) (x : Itm) : Prop := checkN G = 0 ∧ x ∈ L ∧ rightB G x = true
/-- A new set comes back. -/
def SetOf (X : Itm → Prop) (m : Nat) (w : World) (e : Ending) (w' : World) : Prop :=
  ∃ b n, e = .returned (.map (some b)) ∧ w.heap.size ≤ b ∧ n ≤ m ∧ MS b n X w' ∧ Below w.heap.size w w'

set_option maxRecDepth 100000 in
set_option maxHeartbeats 2000000 in
theorem valid_any (h : Sh) (G : Gram) (L : List Itm) (a : Option Addr) (c : Nat) (w : World) (k : GAt h G w) (kl : ItsA a L w) (hw : ∀ x ∈ L, W64 x) (hL : L.length ≤ 8796093022208) :
    Calls Tryz.prog 31 #[gv h G, .slice a L.length c] w (SetOf (VSet G L) L.length w) := by
  have X := Lib.hid (Bx.start h G w 25)
  have C := Lib.hid (fun w1 (b : Below w.heap.size w w1) => check_any h G w1 (k.went b))
  have F := Lib.hid (fun (x : Itm) w1 (b : Below w.heap.size w w1) => fits_any h G x w1 (k.went b))
  have KL := Lib.hid (fun w1 (b : Below w.heap.size w w1) => kl.went b)
  have HW := Lib.hid hw
  have M0 := Lib.hid (MSet.made (H := Nat) (w.alloc (.cells #[.slice h.a1 G.terms.length h.c1, .slice h.a2 G.nons.length h.c2, .slice h.a3 G.rules.length h.c3, .int .i64 G.start] 25)) Tryz.prog 34 unitElem (.agg []))
  have X1 := Lib.hid (X.out.alloc (.map #[] 0))
  have hs1 : (w.alloc (.cells #[.slice h.a1 G.terms.length h.c1, .slice h.a2 G.nons.length h.c2, .slice h.a3 G.rules.length h.c3, .int .i64 G.start] 25)).heap.size = w.heap.size + 1 := by simp
  rw [hs1] at M0
  clear k kl hw X hs1
  by_cases hc : checkN G = 0
  · rw [hc] at C
    unfold gv at C F ⊢
    have hmm := @run_makeMap Tryz.prog
    go_enter Tryz.func31, Tryz.ntmps31
    go_wp2_with (go_at_call 27; refine (C.out _ X1.out.below).mono ?_; rintro e w1 ⟨rfl, hb⟩; have X := Lib.hid (X1.out.went hb); have M := Lib.hid (M0.out.went hb); clear hb X1 M0)
    go_loopw [15] (fun i wr => ∃ j : Nat, j ≤ L.length ∧ i = .int .i64 j ∧ Bx w h G wr ∧ ∃ n ≤ j, MS (w.heap.size + 1) n (VTo G L j) wr) (fun i _ => L.length - (intOf i).toNat)
    case atStart => exact ⟨0, Nat.zero_le _, rfl, X.out, 0, Nat.le_refl _, M.out.iff fun x _ => vto_zero.symm⟩
    case round =>
      obtain ⟨j, hj, rfl, hX, n, hn, hM⟩ := hrel
      clear X M
      have X := Lib.hid hX
      have M := Lib.hid hM
      clear hX hM
      by_cases hlt : j < L.length
      · obtain ⟨b, o, rfl, c0, c1⟩ := (KL.out wr X.out.below).at j hlt
        have hx := HW.out _ (List.getElem_mem hlt)
        have HH := Lib.hid (fun q => vto_hit (G := G) (L := L) (j := j) hlt q)
        have HM := Lib.hid (fun q => vto_miss (G := G) (L := L) (j := j) hlt q)
        have e1 : ((L[j].1, L[j].2) : Itm) = L[j] := rfl
        generalize L[j] = x at *
        obtain ⟨x0, x1⟩ := x
        dsimp only at c0 c1
        have FX := Lib.hid (F.out (x0, x1) _ (X.out.alloc (.cells #[.int .i64 x0, .int .i64 x1] 34)).below)
        have XA := Lib.hid (X.out.alloc (.cells #[.int .i64 x0, .int .i64 x1] 34))
        have y0 : (wr.alloc (.cells #[.int .i64 x0, .int .i64 x1] 34)).cell? ⟨wr.heap.size, 0, none⟩ = some (.int .i64 x0) := cell_new rfl rfl
        have y1 : (wr.alloc (.cells #[.int .i64 x0, .int .i64 x1] 34)).cell? ⟨wr.heap.size, 1, none⟩ = some (.int .i64 x1) := cell_new rfl rfl
        have MA := Lib.hid (M.out.went (boxed wr (.cells #[.int .i64 x0, .int .i64 x1] 34)))
        have e2 : (VTo G L j (x0, x1)) = VTo G L j (x0, x1) := rfl
        obtain ⟨g0, g1, g2, g3⟩ := XA.out.box
        clear X M e1 e2
        by_cases hr : rightB G (x0, x1) = true
        · rw [hr] at FX
          unfold iv at FX
          go_wp2_with (first
            | (go_at_call 29; refine FX.out.mono ?_; rintro e w2 ⟨rfl, hb⟩; have X := Lib.hid (XA.out.went hb); have M := Lib.hid (MA.out.went hb); have z0 := cell_later hb y0; have z1 := cell_later hb y1; have PA := Lib.hid (put_any (x0, x1) hx (w.heap.size + 1) n (VTo G L j) w2 M.out (by unfold maxLen; omega)); clear hb)
            | (go_at_call 34; refine PA.out.mono ?_; rintro e w3 ⟨ok, _, rfl, hm, hf⟩; have MB := Lib.hid hm; have XB := Lib.hid (bx_fr X.out hf fun i hi => by omega); clear hm hf))
          go_roundw
          case rel => exact ⟨j + 1, by omega, by go_num, XB.out, n + 1, by omega, MB.out.iff fun x _ => HH.out hr x⟩
          case measure => simp [intOf]; omega
        · have hr' : rightB G (x0, x1) = false := by simpa using hr
          rw [hr'] at FX
          unfold iv at FX
          go_wp2_with (go_at_call 29; refine FX.out.mono ?_; rintro e w2 ⟨rfl, hb⟩; have X := Lib.hid (XA.out.went hb); have M := Lib.hid (MA.out.went hb); clear hb)
          go_roundw
          case rel => exact ⟨j + 1, by omega, by go_num, X.out, n, by omega, M.out.iff fun x _ => HM.out hr x⟩
          case measure => simp [intOf]; omega
      · have hE : j = L.length := by omega
        subst hE
        go_wp2
        go_ret
        refine ⟨_, n, rfl, by omega, hn, M.out.iff fun x _ => ?_, X.out.below⟩
        rw [vto_all]
        exact ⟨fun h => ⟨hc, h⟩, fun h => h.2⟩
  · have hb : (checkN G == 0) = false := by simpa using hc
    unfold gv at C ⊢
    have hmm := @run_makeMap Tryz.prog
    go_enter Tryz.func31, Tryz.ntmps31
    go_wp2_with (go_at_call 27; refine (C.out _ X1.out.below).mono ?_; rintro e w1 ⟨rfl, hb⟩; have X := Lib.hid (X1.out.went hb); have M := Lib.hid (M0.out.went hb); clear hb X1 M0)
    go_ret
    exact ⟨_, 0, rfl, by omega, Nat.zero_le _, M.out.iff fun x _ => ⟨False.elim, fun h => hc h.1⟩, X.out.below⟩

end Go.Proofs.YtkggpkbdekebcaaGreat.Im
