/-
  Too many: by the program (with the library's slices.ContainsFunc) and by the plain answers. Two rules that are equal: by the program (ContainsFunc with a closure that holds a rule).
-/
import Derived.Test.YtoohnkffclkmhaaGramSame
namespace Go.Proofs.Ytoohnkffclkmhaa.Gr
open Go.RowKit Go.Maps
set_option linter.unusedVariables false

/-- The first rule that is so, or -1. -/
def fidx (p : Int × List Int → Bool) (R : List (Int × List Int)) : Int := match R.findIdx? p with | some i => (i : Int) | Option.none => -1
/-- None of the first k is so. -/
def NoneTo (p : Int × List Int → Bool) (R : List (Int × List Int)) (k : Nat) : Prop := ∀ j (h : j < R.length), j < k → p R[j] = false
theorem noneTo_zero (p : Int × List Int → Bool) (R : List (Int × List Int)) : NoneTo p R 0 := fun _ _ h => absurd h (by omega)
theorem noneTo_step {p : Int × List Int → Bool} {R : List (Int × List Int)} {k : Nat} (h : NoneTo p R k) (hk : k < R.length) (e : p R[k] = false) : NoneTo p R (k + 1) := fun j hj hl => by
  by_cases he : j = k
  · subst he
    exact e
  · exact h j hj (by omega)
theorem fidx_hit {p : Int × List Int → Bool} {R : List (Int × List Int)} {k : Nat} (h : NoneTo p R k) (hk : k < R.length) (e : p R[k] = true) : fidx p R = (k : Int) := by
  have : R.findIdx? p = some k := by
    rw [List.findIdx?_eq_some_iff_getElem]
    exact ⟨hk, e, fun j hj => by simpa using h j (by omega) hj⟩
  simp [fidx, this]
theorem fidx_end {p : Int × List Int → Bool} {R : List (Int × List Int)} {k : Nat} (h : NoneTo p R k) (hk : ¬ k < R.length) : fidx p R = -1 := by
  have : R.findIdx? p = Option.none := by
    rw [List.findIdx?_eq_none_iff]
    intro x hx
    obtain ⟨j, hj, rfl⟩ := List.mem_iff_getElem.1 hx
    exact h j hj (by omega)
  simp [fidx, this]
theorem fidx_any (p : Int × List Int → Bool) (R : List (Int × List Int)) : decide (0 ≤ fidx p R) = R.any p := by
  unfold fidx
  cases h : R.findIdx? p with
  | none =>
    rw [List.findIdx?_eq_none_iff] at h
    simp [List.any_eq_false.2 (fun x hx => by simpa using h x hx)]
  | some i =>
    rw [List.findIdx?_eq_some_iff_getElem] at h
    obtain ⟨hi, e, _⟩ := h
    rw [List.any_eq_true.2 ⟨_, List.getElem_mem hi, e⟩]
    simp

def bigB (r : Int × List Int) : Bool := decide (8 < r.2.length)

theorem big_any (r : Int × List Int) (a : Option Addr) (c : Nat) (w : World) (hl : r.2.length ≤ 17592186044416) :
    Calls Try.prog 49 #[.agg #[.int .i64 r.1, .slice a r.2.length c]] w (Is (.bool (bigB r)) w) := by
  by_cases h : 8 < r.2.length
  · have E := Lib.hid (show bigB r = true by simp [bigB, h])
    go_enter Try.func49, Try.ntmps49
    go_wp2
    go_ret
    refine ⟨bool_of ?_, boxed _ _⟩
    rw [E.out]
    simp
    omega
  · have E := Lib.hid (show bigB r = false by simp [bigB, h])
    go_enter Try.func49, Try.ntmps49
    go_wp2
    go_ret
    refine ⟨bool_of ?_, boxed _ _⟩
    rw [E.out]
    simp
    omega

/-- The closure holds the rule that lies there. -/
def RuleBox (q : Nat) (r : Int × List Int) (w : World) : Prop := ∃ a c, w.cell? ⟨q, 0, none⟩ = some (.int .i64 r.1) ∧ w.cell? ⟨q, 1, none⟩ = some (.slice a r.2.length c) ∧ Sep.Reads a (ivs r.2) w ∧ r.2.length ≤ 17592186044416
theorem RuleBox.later {q : Nat} {r : Int × List Int} {w w' : World} (h : RuleBox q r w) (hb : Below w.heap.size w w') : RuleBox q r w' := by
  obtain ⟨a, c, h1, h2, h3, h4⟩ := h
  exact ⟨a, c, cell_later hb h1, cell_later hb h2, h3.below hb (Nat.le_refl _), h4⟩

set_option maxHeartbeats 1000000 in
theorem old_any (q : Nat) (r o : Int × List Int) (a : Option Addr) (c : Nat) (w : World) (hq : RuleBox q r w) (ha : Sep.Reads a (ivs o.2) w) (hl : o.2.length ≤ 17592186044416) :
    Calls Try.prog 53 #[.agg #[.int .i64 o.1, .slice a o.2.length c], .pointer (some ⟨q, 0, none⟩)] w (Is (.bool (sameR o r)) w) := by
  obtain ⟨a', c', h1, h2, h3, h4⟩ := hq
  have H := Lib.hid (fun w1 (k : Below w.heap.size w w1) => samer_any o r a a' c c' w1 (ha.below k (Nat.le_refl _)) (h3.below k (Nat.le_refl _)) hl h4)
  have hlt : q < w.heap.size := World.block_lt_of_cell? w ⟨q, 0, none⟩ h1
  clear ha h3
  go_enter Try.func53, Try.ntmps53
  go_wp2_with (go_at_call 54; refine (H.out _ (boxed _ _)).mono ?_; rintro e w1 ⟨rfl, hb⟩; have HB := Lib.hid (step (boxed _ _) hb); clear hb)
  go_ret
  exact ⟨rfl, HB.out⟩

set_option maxHeartbeats 2000000 in
theorem index_big (R : List (Int × List Int)) (a : Option Addr) (c : Nat) (w : World) (ha : RulesAt a R w) (hl : R.length ≤ 4398046511104) :
    Calls Try.prog 58 #[.slice a R.length c, .func (.func 49) #[] #[]] w (Is (.int .i64 (fidx bigB R)) w) := by
  have HA := Lib.hid (fun w1 (k : Below w.heap.size w w1) => ha.below k (Nat.le_refl _))
  clear ha
  go_enter Try.func58, Try.ntmps58
  go_wp2
  go_loopw [8] (fun i wr => ∃ k : Nat, k ≤ R.length ∧ i = .int .i64 k ∧ NoneTo bigB R k ∧ Below w.heap.size w wr) (fun i _ => R.length - (intOf i).toNat)
  case atStart => exact ⟨0, Nat.zero_le _, rfl, noneTo_zero _ _, .refl _ _⟩
  case round =>
    obtain ⟨k, hk, rfl, hA, hW⟩ := hrel
    have A := Lib.hid hA
    have HW := Lib.hid hW
    clear hA
    by_cases hlt : k < R.length
    · obtain ⟨b1, o1, ra, rc, rfl, h1, h2, h3, h4, h5⟩ := HA.out _ hW k hlt
      have AE := Lib.hid (fun he => noneTo_step A.out hlt he)
      have AF := Lib.hid (fun he => fidx_hit A.out hlt he)
      generalize R[k] = x at h1 h2 h3 h4 h5 AE AF
      have HC := Lib.hid (fun w1 (k : Below wr.heap.size wr w1) => big_any x ra rc w1 (by omega))
      clear h3 h4 h5 hW
      cases hs : bigB x with
      | false =>
        rw [hs] at HC
        have A2 := Lib.hid (AE.out hs)
        clear hs
        go_wp2_with (go_at_call 49; refine (HC.out _ (.refl _ _)).mono ?_; rintro e w1 ⟨rfl, hb⟩; have HB := Lib.hid (step HW.out hb); clear hb)
        go_roundw
        case rel => exact ⟨k + 1, by omega, by go_num, A2.out, HB.out⟩
        case measure => simp [intOf]; omega
      | true =>
        rw [hs] at HC
        have F := Lib.hid (AF.out hs)
        clear hs
        go_wp2_with (go_at_call 49; refine (HC.out _ (.refl _ _)).mono ?_; rintro e w1 ⟨rfl, hb⟩; have HB := Lib.hid (step HW.out hb); clear hb)
        go_ret
        exact ⟨int_of F.out, HB.out⟩
    · have F := Lib.hid (fidx_end A.out hlt)
      clear hW
      go_wp2
      go_ret
      exact ⟨int_of F.out, HW.out⟩

theorem contains_big (R : List (Int × List Int)) (a : Option Addr) (c : Nat) (w : World) (ha : RulesAt a R w) (hl : R.length ≤ 4398046511104) :
    Calls Try.prog 48 #[.slice a R.length c, .func (.func 49) #[] #[]] w (Is (.bool (R.any bigB)) w) := by
  have H := Lib.hid (index_big R a c w ha hl)
  have E := Lib.hid (fidx_any bigB R)
  clear ha
  generalize fidx bigB R = n at H E
  go_enter Try.func48, Try.ntmps48
  go_wp2_with (go_at_call 58; refine H.out.mono ?_; rintro e w1 ⟨rfl, hb⟩; have HB := Lib.hid hb; clear hb)
  go_ret
  exact ⟨bool_of E.out.symm, HB.out⟩

set_option maxHeartbeats 2000000 in
theorem index_old (q : Nat) (r : Int × List Int) (R : List (Int × List Int)) (a : Option Addr) (c : Nat) (w : World) (ha : RulesAt a R w) (hl : R.length ≤ 4398046511104) (hq : RuleBox q r w) :
    Calls Try.prog 58 #[.slice a R.length c, .func (.func 53) #[] #[.pointer (some ⟨q, 0, none⟩)]] w (Is (.int .i64 (fidx (fun o => sameR o r) R)) w) := by
  have HA := Lib.hid (fun w1 (k : Below w.heap.size w w1) => ha.below k (Nat.le_refl _))
  have HQ := Lib.hid (fun w1 (k : Below w.heap.size w w1) => hq.later k)
  clear hq
  clear ha
  go_enter Try.func58, Try.ntmps58
  go_wp2
  go_loopw [8] (fun i wr => ∃ k : Nat, k ≤ R.length ∧ i = .int .i64 k ∧ NoneTo (fun o => sameR o r) R k ∧ Below w.heap.size w wr) (fun i _ => R.length - (intOf i).toNat)
  case atStart => exact ⟨0, Nat.zero_le _, rfl, noneTo_zero _ _, .refl _ _⟩
  case round =>
    obtain ⟨k, hk, rfl, hA, hW⟩ := hrel
    have A := Lib.hid hA
    have HW := Lib.hid hW
    clear hA
    by_cases hlt : k < R.length
    · obtain ⟨b1, o1, ra, rc, rfl, h1, h2, h3, h4, h5⟩ := HA.out _ hW k hlt
      have AE := Lib.hid (fun he => noneTo_step A.out hlt he)
      have AF := Lib.hid (fun he => fidx_hit A.out hlt he)
      generalize R[k] = x at h1 h2 h3 h4 h5 AE AF
      have HC := Lib.hid (fun w1 (k : Below wr.heap.size wr w1) => old_any q r x ra rc w1 (HQ.out w1 (step hW k)) (Sep.Reads.below h3 k (Nat.le_refl _)) (by omega))
      clear h3 h4 h5 hW
      cases hs : sameR x r with
      | false =>
        rw [hs] at HC
        have A2 := Lib.hid (AE.out hs)
        clear hs
        go_wp2_with (go_at_call 53; refine (HC.out _ (.refl _ _)).mono ?_; rintro e w1 ⟨rfl, hb⟩; have HB := Lib.hid (step HW.out hb); clear hb)
        go_roundw
        case rel => exact ⟨k + 1, by omega, by go_num, A2.out, HB.out⟩
        case measure => simp [intOf]; omega
      | true =>
        rw [hs] at HC
        have F := Lib.hid (AF.out hs)
        clear hs
        go_wp2_with (go_at_call 53; refine (HC.out _ (.refl _ _)).mono ?_; rintro e w1 ⟨rfl, hb⟩; have HB := Lib.hid (step HW.out hb); clear hb)
        go_ret
        exact ⟨int_of F.out, HB.out⟩
    · have F := Lib.hid (fidx_end A.out hlt)
      clear hW
      go_wp2
      go_ret
      exact ⟨int_of F.out, HW.out⟩

theorem contains_old (q : Nat) (r : Int × List Int) (R : List (Int × List Int)) (a : Option Addr) (c : Nat) (w : World) (ha : RulesAt a R w) (hl : R.length ≤ 4398046511104) (hq : RuleBox q r w) :
    Calls Try.prog 48 #[.slice a R.length c, .func (.func 53) #[] #[.pointer (some ⟨q, 0, none⟩)]] w (Is (.bool (R.any (fun o => sameR o r))) w) := by
  have H := Lib.hid (index_old q r R a c w ha hl hq)
  have E := Lib.hid (fidx_any (fun o => sameR o r) R)
  clear ha
  generalize fidx (fun o => sameR o r) R = n at H E
  go_enter Try.func48, Try.ntmps48
  go_wp2_with (go_at_call 58; refine H.out.mono ?_; rintro e w1 ⟨rfl, hb⟩; have HB := Lib.hid hb; clear hb)
  go_ret
  exact ⟨bool_of E.out.symm, HB.out⟩

set_option maxHeartbeats 1000000 in
theorem many_any (h : Sh) (G : Gram) (w : World) (k : GAt h G w) :
    Calls Try.prog 34 #[gv h G] w (Is (.bool (manyB G)) w) := by
  have t := k.t2
  have n := k.n2
  have r := k.r2
  have X := Lib.hid (Bx.start h G w 43)
  have C := Lib.hid (fun w1 (b : Below w.heap.size w w1) => contains_big G.rules h.a3 h.c3 w1 (k.went b).rules r)
  clear k
  have E := Lib.hid (show manyB G = (decide (120 < G.terms.length) || decide (120 < G.nons.length) || decide (300 < G.rules.length) || G.rules.any bigB) from rfl)
  unfold gv
  generalize G.rules.any bigB = b at *
  by_cases h1 : 120 < G.terms.length
  · rw [decide_eq_true h1] at E
    simp only [Bool.true_or] at E
    go_enter Try.func34, Try.ntmps34
    go_wp2
    go_ret
    exact ⟨bool_of E.out, X.out.below⟩
  · rw [decide_eq_false h1, Bool.false_or] at E
    by_cases h2 : 120 < G.nons.length
    · rw [decide_eq_true h2] at E
      simp only [Bool.true_or] at E
      go_enter Try.func34, Try.ntmps34
      go_wp2
      go_ret
      exact ⟨bool_of E.out, X.out.below⟩
    · rw [decide_eq_false h2, Bool.false_or] at E
      by_cases h3 : 300 < G.rules.length
      · rw [decide_eq_true h3] at E
        simp only [Bool.true_or] at E
        go_enter Try.func34, Try.ntmps34
        go_wp2
        go_ret
        exact ⟨bool_of E.out, X.out.below⟩
      · rw [decide_eq_false h3, Bool.false_or] at E
        go_enter Try.func34, Try.ntmps34
        go_wp2_with (go_at_call 48; refine (C.out _ X.out.below).mono ?_; rintro e w1 ⟨rfl, hb⟩; have X := Lib.hid (X.out.went hb); clear hb)
        go_ret
        exact ⟨bool_of E.out, X.out.below⟩

theorem any_false_upto {R : List (Int × List Int)} {p : Int × List Int → Bool} {k : Nat} (h : NoneTo p R k) (hk : ¬ k < R.length) : R.any p = false := by
  rw [← fidx_any, fidx_end h hk]
  rfl
theorem any_true_at {R : List (Int × List Int)} {p : Int × List Int → Bool} {k : Nat} (hk : k < R.length) (e : p R[k] = true) : R.any p = true := List.any_eq_true.2 ⟨_, List.getElem_mem hk, e⟩

end Go.Proofs.Ytoohnkffclkmhaa.Gr
