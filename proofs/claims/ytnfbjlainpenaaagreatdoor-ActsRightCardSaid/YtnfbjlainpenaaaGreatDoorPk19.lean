/- A part of the proof. -/
import Derived.Test.YtnfbjlainpenaaaGreatDoorPk18
set_option maxHeartbeats 2000000
set_option linter.unusedVariables false
namespace Go.Proofs.YtnfbjlainpenaaaGreatDoor
namespace Gr
open Go.RowKit Go.Maps
def fidx (p : Int × List Int -> Bool) (R : List (Int × List Int)) : Int := match R.findIdx? p with | some i => (i : Int) | Option.none => -1
def zDo (p : Int × List Int -> Bool) (R : List (Int × List Int)) (k : Nat) : Prop := ∀ j (h : j < R.length), j < k -> p R[j] = false
theorem zEC (p : Int × List Int -> Bool) (R : List (Int × List Int)) : zDo p R 0 := fun _ _ h => absurd h (by omega)
theorem zEB {p : Int × List Int -> Bool} {R : List (Int × List Int)} {k : Nat} (h : zDo p R k) (hk : k < R.length) (e : p R[k] = false) : zDo p R (k + 1) := fun j hj hl => by
 by_cases he : j = k
 ·subst he
  exact e
 ·exact h j hj (by omega)
theorem zHn {p : Int × List Int -> Bool} {R : List (Int × List Int)} {k : Nat} (h : zDo p R k) (hk : k < R.length) (e : p R[k] = true) : fidx p R = (k : Int) := by
 have : R.findIdx? p = some k := by
  rw [List.findIdx?_eq_some_iff_getElem]
  exact ⟨hk, e, fun j hj => by simpa using h j (by omega) hj⟩
 simp [fidx, this]
theorem zHm {p : Int × List Int -> Bool} {R : List (Int × List Int)} {k : Nat} (h : zDo p R k) (hk : ¬ k < R.length) : fidx p R = -1 := by
 have : R.findIdx? p = Option.none := by
  rw [List.findIdx?_eq_none_iff]
  intro x hx
  obtain ⟨j, hj, rfl⟩ := List.mem_iff_getElem.1 hx
  exact h j hj (by omega)
 simp [fidx, this]
theorem zHl (p : Int × List Int -> Bool) (R : List (Int × List Int)) : decide (0 <= fidx p R) = R.any p := by
 unfold fidx
 cases h : R.findIdx? p with
 | none =>
  rw [List.findIdx?_eq_none_iff] at h
  simp [List.any_eq_false.2 (fun x hx => by simpa using h x hx)]
 | some i =>
  rw [List.findIdx?_eq_some_iff_getElem] at h
  obtain ⟨hi, e, _⟩ := h
  rw [List.any_eq_true.2 ⟨_, List.getElem_mem hi, e⟩]
  simp
def bigB (r : Int × List Int) : Bool := decide (8 < r.2.length)
theorem zPP (r : Int × List Int) (a : Option Addr) (c : Nat) (w : World) (hl : r.2.length <= 17592186044416) :
  Calls Tryz.prog 99 #[.agg #[.int .i64 r.1, .slice a r.2.length c]] w (Is (.bool (bigB r)) w) := by
 by_cases h : 8 < r.2.length
 ·have E := zSg (show bigB r = true by simp [bigB, h])
  go_enter Tryz.func99, Tryz.ntmps99
  go_wp2
  go_ret
  refine ⟨zAK ?_, boxed _ _⟩
  rw [E.out]
  simp
  omega
 ·have E := zSg (show bigB r = false by simp [bigB, h])
  go_enter Tryz.func99, Tryz.ntmps99
  go_wp2
  go_ret
  refine ⟨zAK ?_, boxed _ _⟩
  rw [E.out]
  simp
  omega
def zDA (q : Nat) (r : Int × List Int) (w : World) : Prop := ∃ a c, w.cell? ⟨q, 0, none⟩ = some (.int .i64 r.1) /\ w.cell? ⟨q, 1, none⟩ = some (.slice a r.2.length c) /\ Sep.Reads a (ivs r.2) w /\ r.2.length <= 17592186044416
theorem zDA.later {q : Nat} {r : Int × List Int} {w w' : World} (h : zDA q r w) (hb : Below w.heap.size w w') : zDA q r w' := by
 obtain ⟨a, c, h1, h2, h3, h4⟩ := h
 exact ⟨a, c, cell_later hb h1, cell_later hb h2, h3.below hb (Nat.le_refl _), h4⟩
theorem zQS (q : Nat) (r o : Int × List Int) (a : Option Addr) (c : Nat) (w : World) (hq : zDA q r w) (ha : Sep.Reads a (ivs o.2) w) (hl : o.2.length <= 17592186044416) :
  Calls Tryz.prog 105 #[.agg #[.int .i64 o.1, .slice a o.2.length c], .pointer (some ⟨q, 0, none⟩)] w (Is (.bool (zB3 o r)) w) := by
 obtain ⟨a', c', h1, h2, h3, h4⟩ := hq
 have H := zSg (fun w1 (k : Below w.heap.size w w1) => zLq o r a a' c c' w1 (ha.below k (Nat.le_refl _)) (h3.below k (Nat.le_refl _)) hl h4)
 have hlt : q < w.heap.size := World.block_lt_of_cell? w ⟨q, 0, none⟩ h1
 clear ha h3
 go_enter Tryz.func105, Tryz.ntmps105
 go_wp2_with (go_at_call 106; refine (H.out _ (boxed _ _)).mono ?_; rintro e w1 ⟨rfl, hb⟩; have HB := zSg (step (boxed _ _) hb); clear hb)
 go_ret
 exact ⟨rfl, HB.out⟩
theorem zKj (R : List (Int × List Int)) (a : Option Addr) (c : Nat) (w : World) (ha : zBI a R w) (hl : R.length <= 4398046511104) :
  Calls Tryz.prog 133 #[.slice a R.length c, .func (.func 99) #[] #[]] w (Is (.int .i64 (fidx bigB R)) w) := by
 have HA := zSg (fun w1 (k : Below w.heap.size w w1) => ha.below k (Nat.le_refl _))
 clear ha
 go_enter Tryz.func133, Tryz.ntmps133
 go_wp2
 go_loopw [8] (fun i wr => ∃ k : Nat, k <= R.length /\ i = .int .i64 k /\ zDo bigB R k /\ Below w.heap.size w wr) (fun i _ => R.length - (intOf i).toNat)
 case atStart => exact ⟨0, Nat.zero_le _, rfl, zEC _ _, .refl _ _⟩
 case round =>
  obtain ⟨k, hk, rfl, hA, hW⟩ := hrel
  have A := zSg hA
  have HW := zSg hW
  clear hA
  by_cases hlt : k < R.length
  ·obtain ⟨b1, o1, ra, rc, rfl, h1, h2, h3, h4, h5⟩ := HA.out _ hW k hlt
   have AE := zSg (fun he => zEB A.out hlt he)
   have AF := zSg (fun he => zHn A.out hlt he)
   generalize R[k] = x at h1 h2 h3 h4 h5 AE AF
   have HC := zSg (fun w1 (k : Below wr.heap.size wr w1) => zPP x ra rc w1 (by omega))
   clear h3 h4 h5 hW
   cases hs : bigB x with
   | false =>
    rw [hs] at HC
    have A2 := zSg (AE.out hs)
    clear hs
    go_wp2_with (go_at_call 99; refine (HC.out _ (.refl _ _)).mono ?_; rintro e w1 ⟨rfl, hb⟩; have HB := zSg (step HW.out hb); clear hb)
    go_roundw
    case rel => exact ⟨k + 1, by omega, by go_num, A2.out, HB.out⟩
    case measure => simp [intOf]; omega
   | true =>
    rw [hs] at HC
    have F := zSg (AF.out hs)
    clear hs
    go_wp2_with (go_at_call 99; refine (HC.out _ (.refl _ _)).mono ?_; rintro e w1 ⟨rfl, hb⟩; have HB := zSg (step HW.out hb); clear hb)
    go_ret
    exact ⟨zAl F.out, HB.out⟩
  ·have F := zSg (zHm A.out hlt)
   clear hW
   go_wp2
   go_ret
   exact ⟨zAl F.out, HW.out⟩
theorem zFu (R : List (Int × List Int)) (a : Option Addr) (c : Nat) (w : World) (ha : zBI a R w) (hl : R.length <= 4398046511104) :
  Calls Tryz.prog 98 #[.slice a R.length c, .func (.func 99) #[] #[]] w (Is (.bool (R.any bigB)) w) := by
 have H := zSg (zKj R a c w ha hl)
 have E := zSg (zHl bigB R)
 clear ha
 generalize fidx bigB R = n at H E
 go_enter Tryz.func98, Tryz.ntmps98
 go_wp2_with (go_at_call 133; refine H.out.mono ?_; rintro e w1 ⟨rfl, hb⟩; have HB := zSg hb; clear hb)
 go_ret
 exact ⟨zAK E.out.symm, HB.out⟩
theorem zKk (q : Nat) (r : Int × List Int) (R : List (Int × List Int)) (a : Option Addr) (c : Nat) (w : World) (ha : zBI a R w) (hl : R.length <= 4398046511104) (hq : zDA q r w) :
  Calls Tryz.prog 133 #[.slice a R.length c, .func (.func 105) #[] #[.pointer (some ⟨q, 0, none⟩)]] w (Is (.int .i64 (fidx (fun o => zB3 o r) R)) w) := by
 have HA := zSg (fun w1 (k : Below w.heap.size w w1) => ha.below k (Nat.le_refl _))
 have HQ := zSg (fun w1 (k : Below w.heap.size w w1) => hq.later k)
 clear hq
 clear ha
 go_enter Tryz.func133, Tryz.ntmps133
 go_wp2
 go_loopw [8] (fun i wr => ∃ k : Nat, k <= R.length /\ i = .int .i64 k /\ zDo (fun o => zB3 o r) R k /\ Below w.heap.size w wr) (fun i _ => R.length - (intOf i).toNat)
 case atStart => exact ⟨0, Nat.zero_le _, rfl, zEC _ _, .refl _ _⟩
 case round =>
  obtain ⟨k, hk, rfl, hA, hW⟩ := hrel
  have A := zSg hA
  have HW := zSg hW
  clear hA
  by_cases hlt : k < R.length
  ·obtain ⟨b1, o1, ra, rc, rfl, h1, h2, h3, h4, h5⟩ := HA.out _ hW k hlt
   have AE := zSg (fun he => zEB A.out hlt he)
   have AF := zSg (fun he => zHn A.out hlt he)
   generalize R[k] = x at h1 h2 h3 h4 h5 AE AF
   have HC := zSg (fun w1 (k : Below wr.heap.size wr w1) => zQS q r x ra rc w1 (HQ.out w1 (step hW k)) (Sep.Reads.below h3 k (Nat.le_refl _)) (by omega))
   clear h3 h4 h5 hW
   cases hs : zB3 x r with
   | false =>
    rw [hs] at HC
    have A2 := zSg (AE.out hs)
    clear hs
    go_wp2_with (go_at_call 105; refine (HC.out _ (.refl _ _)).mono ?_; rintro e w1 ⟨rfl, hb⟩; have HB := zSg (step HW.out hb); clear hb)
    go_roundw
    case rel => exact ⟨k + 1, by omega, by go_num, A2.out, HB.out⟩
    case measure => simp [intOf]; omega
   | true =>
    rw [hs] at HC
    have F := zSg (AF.out hs)
    clear hs
    go_wp2_with (go_at_call 105; refine (HC.out _ (.refl _ _)).mono ?_; rintro e w1 ⟨rfl, hb⟩; have HB := zSg (step HW.out hb); clear hb)
    go_ret
    exact ⟨zAl F.out, HB.out⟩
  ·have F := zSg (zHm A.out hlt)
   clear hW
   go_wp2
   go_ret
   exact ⟨zAl F.out, HW.out⟩
theorem zFv (q : Nat) (r : Int × List Int) (R : List (Int × List Int)) (a : Option Addr) (c : Nat) (w : World) (ha : zBI a R w) (hl : R.length <= 4398046511104) (hq : zDA q r w) :
  Calls Tryz.prog 98 #[.slice a R.length c, .func (.func 105) #[] #[.pointer (some ⟨q, 0, none⟩)]] w (Is (.bool (R.any (fun o => zB3 o r))) w) := by
 have H := zSg (zKk q r R a c w ha hl hq)
 have E := zSg (zHl (fun o => zB3 o r) R)
 clear ha
 generalize fidx (fun o => zB3 o r) R = n at H E
 go_enter Tryz.func98, Tryz.ntmps98
 go_wp2_with (go_at_call 133; refine H.out.mono ?_; rintro e w1 ⟨rfl, hb⟩; have HB := zSg hb; clear hb)
 go_ret
 exact ⟨zAK E.out.symm, HB.out⟩
theorem zNf (h : Sh) (G : Gram) (w : World) (k : GAt h G w) :
  Calls Tryz.prog 60 #[gv h G] w (Is (.bool (zBX G)) w) := by
 have t := k.t2
 have n := k.n2
 have r := k.r2
 have X := zSg (Bx.start h G w 25)
 have C := zSg (fun w1 (b : Below w.heap.size w w1) => zFu G.rules h.a3 h.c3 w1 (k.went b).rules r)
 clear k
 have E := zSg (show zBX G = (decide (120 < G.terms.length) || decide (120 < G.nons.length) || decide (300 < G.rules.length) || G.rules.any bigB) from rfl)
 unfold gv
 generalize G.rules.any bigB = b at *
 by_cases h1 : 120 < G.terms.length
 ·rw [decide_eq_true h1] at E
  simp only [Bool.true_or] at E
  go_enter Tryz.func60, Tryz.ntmps60
  go_wp2
  go_ret
  exact ⟨zAK E.out, X.out.below⟩
 ·rw [decide_eq_false h1, Bool.false_or] at E
  by_cases h2 : 120 < G.nons.length
  ·rw [decide_eq_true h2] at E
   simp only [Bool.true_or] at E
   go_enter Tryz.func60, Tryz.ntmps60
   go_wp2
   go_ret
   exact ⟨zAK E.out, X.out.below⟩
  ·rw [decide_eq_false h2, Bool.false_or] at E
   by_cases h3 : 300 < G.rules.length
   ·rw [decide_eq_true h3] at E
    simp only [Bool.true_or] at E
    go_enter Tryz.func60, Tryz.ntmps60
    go_wp2
    go_ret
    exact ⟨zAK E.out, X.out.below⟩
   ·rw [decide_eq_false h3, Bool.false_or] at E
    go_enter Tryz.func60, Tryz.ntmps60
    go_wp2_with (go_at_call 98; refine (C.out _ X.out.below).mono ?_; rintro e w1 ⟨rfl, hb⟩; have X := zSg (X.out.went hb); clear hb)
    go_ret
    exact ⟨zAK E.out, X.out.below⟩
