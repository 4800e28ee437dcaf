/- A part of the proof. -/
import Derived.Test.YtnfbjlainpenaaaGreatPk07
set_option maxHeartbeats 2000000
set_option linter.unusedVariables false
namespace Go.Proofs.YtnfbjlainpenaaaGreat
namespace Gr
open Go.RowKit Go.Maps
def fidx (p : Int × List Int -> Bool) (R : List (Int × List Int)) : Int := match R.findIdx? p with | some i => (i : Int) | Option.none => -1
def zBv (p : Int × List Int -> Bool) (R : List (Int × List Int)) (k : Nat) : Prop := ∀ j (h : j < R.length), j < k -> p R[j] = false
theorem zBt (p : Int × List Int -> Bool) (R : List (Int × List Int)) : zBv p R 0 := fun _ _ h => absurd h (by omega)
theorem zBs {p : Int × List Int -> Bool} {R : List (Int × List Int)} {k : Nat} (h : zBv p R k) (hk : k < R.length) (e : p R[k] = false) : zBv p R (k + 1) := fun j hj hl => by
 by_cases he : j = k
 ·subst he
  exact e
 ·exact h j hj (by omega)
theorem zFu {p : Int × List Int -> Bool} {R : List (Int × List Int)} {k : Nat} (h : zBv p R k) (hk : k < R.length) (e : p R[k] = true) : fidx p R = (k : Int) := by
 have : R.findIdx? p = some k := by
  rw [List.findIdx?_eq_some_iff_getElem]
  exact ⟨hk, e, fun j hj => by simpa using h j (by omega) hj⟩
 simp [fidx, this]
theorem zDy {p : Int × List Int -> Bool} {R : List (Int × List Int)} {k : Nat} (h : zBv p R k) (hk : ¬ k < R.length) : fidx p R = -1 := by
 have : R.findIdx? p = Option.none := by
  rw [List.findIdx?_eq_none_iff]
  intro x hx
  obtain ⟨j, hj, rfl⟩ := List.mem_iff_getElem.1 hx
  exact h j hj (by omega)
 simp [fidx, this]
theorem zDx (p : Int × List Int -> Bool) (R : List (Int × List Int)) : decide (0 <= fidx p R) = R.any p := by
 unfold fidx
 cases h : R.findIdx? p with
 | none =>
  rw [List.findIdx?_eq_none_iff] at h
  simp [List.any_eq_false.2 (fun x hx => by simpa using h x hx)]
 | some i =>
  rw [List.findIdx?_eq_some_iff_getElem] at h
  obtain ⟨hi, e, _⟩ := h
  rw [List.any_eq_true.2 ⟨_, List.getElem_mem hi, e⟩]
  simp
def bigB (r : Int × List Int) : Bool := decide (8 < r.2.length)
theorem zLR (r : Int × List Int) (a : Option Addr) (c : Nat) (w : World) (hl : r.2.length <= 17592186044416) :
  Calls Tryz.prog 87 #[.agg #[.int .i64 r.1, .slice a r.2.length c]] w (Is (.bool (bigB r)) w) := by
 by_cases h : 8 < r.2.length
 ·have E := zNR (show bigB r = true by simp [bigB, h])
  go_enter Tryz.func87, Tryz.ntmps87
  go_wp2
  go_ret
  refine ⟨zAA ?_, boxed _ _⟩
  rw [E.out]
  simp
  omega
 ·have E := zNR (show bigB r = false by simp [bigB, h])
  go_enter Tryz.func87, Tryz.ntmps87
  go_wp2
  go_ret
  refine ⟨zAA ?_, boxed _ _⟩
  rw [E.out]
  simp
  omega
def zCH (q : Nat) (r : Int × List Int) (w : World) : Prop := ∃ a c, w.cell? ⟨q, 0, none⟩ = some (.int .i64 r.1) /\ w.cell? ⟨q, 1, none⟩ = some (.slice a r.2.length c) /\ Sep.Reads a (ivs r.2) w /\ r.2.length <= 17592186044416
theorem zCH.later {q : Nat} {r : Int × List Int} {w w' : World} (h : zCH q r w) (hb : Below w.heap.size w w') : zCH q r w' := by
 obtain ⟨a, c, h1, h2, h3, h4⟩ := h
 exact ⟨a, c, cell_later hb h1, cell_later hb h2, h3.below hb (Nat.le_refl _), h4⟩
theorem zL3 (q : Nat) (r o : Int × List Int) (a : Option Addr) (c : Nat) (w : World) (hq : zCH q r w) (ha : Sep.Reads a (ivs o.2) w) (hl : o.2.length <= 17592186044416) :
  Calls Tryz.prog 91 #[.agg #[.int .i64 o.1, .slice a o.2.length c], .pointer (some ⟨q, 0, none⟩)] w (Is (.bool (zAt o r)) w) := by
 obtain ⟨a', c', h1, h2, h3, h4⟩ := hq
 have H := zNR (fun w1 (k : Below w.heap.size w w1) => zJG o r a a' c c' w1 (ha.below k (Nat.le_refl _)) (h3.below k (Nat.le_refl _)) hl h4)
 have hlt : q < w.heap.size := World.block_lt_of_cell? w ⟨q, 0, none⟩ h1
 clear ha h3
 go_enter Tryz.func91, Tryz.ntmps91
 go_wp2_with (go_at_call 92; refine (H.out _ (boxed _ _)).mono ?_; rintro e w1 ⟨rfl, hb⟩; have HB := zNR (step (boxed _ _) hb); clear hb)
 go_ret
 exact ⟨rfl, HB.out⟩
theorem zIG (R : List (Int × List Int)) (a : Option Addr) (c : Nat) (w : World) (ha : zAm a R w) (hl : R.length <= 4398046511104) :
  Calls Tryz.prog 100 #[.slice a R.length c, .func (.func 87) #[] #[]] w (Is (.int .i64 (fidx bigB R)) w) := by
 have HA := zNR (fun w1 (k : Below w.heap.size w w1) => ha.below k (Nat.le_refl _))
 clear ha
 go_enter Tryz.func100, Tryz.ntmps100
 go_wp2
 go_loopw [8] (fun i wr => ∃ k : Nat, k <= R.length /\ i = .int .i64 k /\ zBv bigB R k /\ Below w.heap.size w wr) (fun i _ => R.length - (intOf i).toNat)
 case atStart => exact ⟨0, Nat.zero_le _, rfl, zBt _ _, .refl _ _⟩
 case round =>
  obtain ⟨k, hk, rfl, hA, hW⟩ := hrel
  have A := zNR hA
  have HW := zNR hW
  clear hA
  by_cases hlt : k < R.length
  ·obtain ⟨b1, o1, ra, rc, rfl, h1, h2, h3, h4, h5⟩ := HA.out _ hW k hlt
   have AE := zNR (fun he => zBs A.out hlt he)
   have AF := zNR (fun he => zFu A.out hlt he)
   generalize R[k] = x at h1 h2 h3 h4 h5 AE AF
   have HC := zNR (fun w1 (k : Below wr.heap.size wr w1) => zLR x ra rc w1 (by omega))
   clear h3 h4 h5 hW
   cases hs : bigB x with
   | false =>
    rw [hs] at HC
    have A2 := zNR (AE.out hs)
    clear hs
    go_wp2_with (go_at_call 87; refine (HC.out _ (.refl _ _)).mono ?_; rintro e w1 ⟨rfl, hb⟩; have HB := zNR (step HW.out hb); clear hb)
    go_roundw
    case rel => exact ⟨k + 1, by omega, by go_num, A2.out, HB.out⟩
    case measure => simp [intOf]; omega
   | true =>
    rw [hs] at HC
    have F := zNR (AF.out hs)
    clear hs
    go_wp2_with (go_at_call 87; refine (HC.out _ (.refl _ _)).mono ?_; rintro e w1 ⟨rfl, hb⟩; have HB := zNR (step HW.out hb); clear hb)
    go_ret
    exact ⟨zAH F.out, HB.out⟩
  ·have F := zNR (zDy A.out hlt)
   clear hW
   go_wp2
   go_ret
   exact ⟨zAH F.out, HW.out⟩
theorem zEV (R : List (Int × List Int)) (a : Option Addr) (c : Nat) (w : World) (ha : zAm a R w) (hl : R.length <= 4398046511104) :
  Calls Tryz.prog 86 #[.slice a R.length c, .func (.func 87) #[] #[]] w (Is (.bool (R.any bigB)) w) := by
 have H := zNR (zIG R a c w ha hl)
 have E := zNR (zDx bigB R)
 clear ha
 generalize fidx bigB R = n at H E
 go_enter Tryz.func86, Tryz.ntmps86
 go_wp2_with (go_at_call 100; refine H.out.mono ?_; rintro e w1 ⟨rfl, hb⟩; have HB := zNR hb; clear hb)
 go_ret
 exact ⟨zAA E.out.symm, HB.out⟩
theorem zIH (q : Nat) (r : Int × List Int) (R : List (Int × List Int)) (a : Option Addr) (c : Nat) (w : World) (ha : zAm a R w) (hl : R.length <= 4398046511104) (hq : zCH q r w) :
  Calls Tryz.prog 100 #[.slice a R.length c, .func (.func 91) #[] #[.pointer (some ⟨q, 0, none⟩)]] w (Is (.int .i64 (fidx (fun o => zAt o r) R)) w) := by
 have HA := zNR (fun w1 (k : Below w.heap.size w w1) => ha.below k (Nat.le_refl _))
 have HQ := zNR (fun w1 (k : Below w.heap.size w w1) => hq.later k)
 clear hq
 clear ha
 go_enter Tryz.func100, Tryz.ntmps100
 go_wp2
 go_loopw [8] (fun i wr => ∃ k : Nat, k <= R.length /\ i = .int .i64 k /\ zBv (fun o => zAt o r) R k /\ Below w.heap.size w wr) (fun i _ => R.length - (intOf i).toNat)
 case atStart => exact ⟨0, Nat.zero_le _, rfl, zBt _ _, .refl _ _⟩
 case round =>
  obtain ⟨k, hk, rfl, hA, hW⟩ := hrel
  have A := zNR hA
  have HW := zNR hW
  clear hA
  by_cases hlt : k < R.length
  ·obtain ⟨b1, o1, ra, rc, rfl, h1, h2, h3, h4, h5⟩ := HA.out _ hW k hlt
   have AE := zNR (fun he => zBs A.out hlt he)
   have AF := zNR (fun he => zFu A.out hlt he)
   generalize R[k] = x at h1 h2 h3 h4 h5 AE AF
   have HC := zNR (fun w1 (k : Below wr.heap.size wr w1) => zL3 q r x ra rc w1 (HQ.out w1 (step hW k)) (Sep.Reads.below h3 k (Nat.le_refl _)) (by omega))
   clear h3 h4 h5 hW
   cases hs : zAt x r with
   | false =>
    rw [hs] at HC
    have A2 := zNR (AE.out hs)
    clear hs
    go_wp2_with (go_at_call 91; refine (HC.out _ (.refl _ _)).mono ?_; rintro e w1 ⟨rfl, hb⟩; have HB := zNR (step HW.out hb); clear hb)
    go_roundw
    case rel => exact ⟨k + 1, by omega, by go_num, A2.out, HB.out⟩
    case measure => simp [intOf]; omega
   | true =>
    rw [hs] at HC
    have F := zNR (AF.out hs)
    clear hs
    go_wp2_with (go_at_call 91; refine (HC.out _ (.refl _ _)).mono ?_; rintro e w1 ⟨rfl, hb⟩; have HB := zNR (step HW.out hb); clear hb)
    go_ret
    exact ⟨zAH F.out, HB.out⟩
  ·have F := zNR (zDy A.out hlt)
   clear hW
   go_wp2
   go_ret
   exact ⟨zAH F.out, HW.out⟩
theorem zEW (q : Nat) (r : Int × List Int) (R : List (Int × List Int)) (a : Option Addr) (c : Nat) (w : World) (ha : zAm a R w) (hl : R.length <= 4398046511104) (hq : zCH q r w) :
  Calls Tryz.prog 86 #[.slice a R.length c, .func (.func 91) #[] #[.pointer (some ⟨q, 0, none⟩)]] w (Is (.bool (R.any (fun o => zAt o r))) w) := by
 have H := zNR (zIH q r R a c w ha hl hq)
 have E := zNR (zDx (fun o => zAt o r) R)
 clear ha
 generalize fidx (fun o => zAt o r) R = n at H E
 go_enter Tryz.func86, Tryz.ntmps86
 go_wp2_with (go_at_call 100; refine H.out.mono ?_; rintro e w1 ⟨rfl, hb⟩; have HB := zNR hb; clear hb)
 go_ret
 exact ⟨zAA E.out.symm, HB.out⟩
theorem zKI (h : Sh) (G : Gram) (w : World) (k : GAt h G w) :
  Calls Tryz.prog 60 #[gv h G] w (Is (.bool (zAv G)) w) := by
 have t := k.t2
 have n := k.n2
 have r := k.r2
 have X := zNR (Bx.start h G w 25)
 have C := zNR (fun w1 (b : Below w.heap.size w w1) => zEV G.rules h.a3 h.c3 w1 (k.went b).rules r)
 clear k
 have E := zNR (show zAv G = (decide (120 < G.terms.length) || decide (120 < G.nons.length) || decide (300 < G.rules.length) || G.rules.any bigB) from rfl)
 unfold gv
 generalize G.rules.any bigB = b at *
 by_cases h1 : 120 < G.terms.length
 ·rw [decide_eq_true h1] at E
  simp only [Bool.true_or] at E
  go_enter Tryz.func60, Tryz.ntmps60
  go_wp2
  go_ret
  exact ⟨zAA E.out, X.out.below⟩
 ·rw [decide_eq_false h1, Bool.false_or] at E
  by_cases h2 : 120 < G.nons.length
  ·rw [decide_eq_true h2] at E
   simp only [Bool.true_or] at E
   go_enter Tryz.func60, Tryz.ntmps60
   go_wp2
   go_ret
   exact ⟨zAA E.out, X.out.below⟩
  ·rw [decide_eq_false h2, Bool.false_or] at E
   by_cases h3 : 300 < G.rules.length
   ·rw [decide_eq_true h3] at E
    simp only [Bool.true_or] at E
    go_enter Tryz.func60, Tryz.ntmps60
    go_wp2
    go_ret
    exact ⟨zAA E.out, X.out.below⟩
   ·rw [decide_eq_false h3, Bool.false_or] at E
    go_enter Tryz.func60, Tryz.ntmps60
    go_wp2_with (go_at_call 86; refine (C.out _ X.out.below).mono ?_; rintro e w1 ⟨rfl, hb⟩; have X := zNR (X.out.went hb); clear hb)
    go_ret
    exact ⟨zAA E.out, X.out.below⟩
theorem zC7 {R : List (Int × List Int)} {p : Int × List Int -> Bool} {k : Nat} (h : zBv p R k) (hk : ¬ k < R.length) : R.any p = false := by
 rw [← zDx, zDy h hk]
 rfl
theorem zE7 {R : List (Int × List Int)} {p : Int × List Int -> Bool} {k : Nat} (hk : k < R.length) (e : p R[k] = true) : R.any p = true := List.any_eq_true.2 ⟨_, List.getElem_mem hk, e⟩
theorem zI8 (h : Sh) (G : Gram) (w : World) (k : GAt h G w) :
  Calls Tryz.prog 49 #[gv h G] w (Is (.bool (zAv G)) w) := by
 have t := k.t2
 have n := k.n2
 have r := k.r2
 obtain ⟨a1, c1, a2, c2, a3, c3⟩ := h
 have X := zNR (Bx.start ⟨a1, c1, a2, c2, a3, c3⟩ G w 25)
 have K := zNR k.rules
 have HB := zNR (boxed w (.cells #[.slice a1 G.terms.length c1, .slice a2 G.nons.length c2, .slice a3 G.rules.length c3, .int .i64 G.start] 25))
 clear k
 have E := zNR (show zAv G = (decide (120 < G.terms.length) || decide (120 < G.nons.length) || decide (300 < G.rules.length) || G.rules.any bigB) from rfl)
 unfold gv
 dsimp only
 go_enter Tryz.func49, Tryz.ntmps49
 go_wp2
 go_loop [3] (fun i => ∃ k : Nat, k <= G.rules.length /\ i = .int .i64 k /\ zBv bigB G.rules k) (fun i => G.rules.length - (intOf i).toNat)
 case atStart => exact ⟨0, Nat.zero_le _, rfl, zBt _ _⟩
 case round =>
  obtain ⟨k, hk, rfl, hA⟩ := hrel
  have A := zNR hA
  clear hA
  by_cases hlt : k < G.rules.length
  ·obtain ⟨b1, o1, ra, rc, e, h1, h2, h3, h4, h5⟩ := K.out k hlt
   try dsimp only at e
   subst e
   have hb := World.block_lt_of_cell? w ⟨b1, o1 + k * 2, none⟩ h1
   have AE := zNR (fun he => zBs A.out hlt he)
   have AF := zNR (fun he => zE7 (p := bigB) hlt he)
   generalize G.rules[k] = x at h1 h2 h3 h4 h5 AE AF
   clear h3
   by_cases hs : 8 < x.2.length
   ·have F := zNR (AF.out (by simpa [bigB] using hs))
    go_wp2
    go_ret
    exact ⟨zAA (by rw [E.out, F.out, Bool.or_true]), X.out.below⟩
   ·have A2 := zNR (AE.out (by simpa [bigB] using hs))
    go_wp2
    go_round
    case rel => exact ⟨k + 1, by omega, by go_num, A2.out⟩
    case measure => simp [intOf]; omega
  ·have F := zNR (zC7 A.out hlt)
   rw [F.out, Bool.or_false] at E
   by_cases h1 : 120 < G.terms.length
   ·rw [decide_eq_true h1] at E
    simp only [Bool.true_or] at E
    go_wp2
    go_ret
    exact ⟨zAA E.out, X.out.below⟩
   ·rw [decide_eq_false h1, Bool.false_or] at E
    by_cases h2 : 120 < G.nons.length
    ·rw [decide_eq_true h2] at E
     simp only [Bool.true_or] at E
     go_wp2
     go_ret
     exact ⟨zAA E.out, X.out.below⟩
    ·rw [decide_eq_false h2, Bool.false_or] at E
     by_cases h3 : 300 < G.rules.length
     ·rw [decide_eq_true h3] at E
      go_wp2
      go_ret
      refine ⟨zAA ?_, X.out.below⟩
      rw [E.out]
      simp
      omega
     ·rw [decide_eq_false h3] at E
      go_wp2
      go_ret
      refine ⟨zAA ?_, X.out.below⟩
      rw [E.out]
      simp
      omega
