/-
  Check: by the program and by the plain answers.
  Too many: by the program (with the library's slices.ContainsFunc) and by the plain answers. Two rules that are equal: by the program (ContainsFunc with a closure that holds a rule).
  Ordered, by the program and by the plain answers; the plain answers' Of.
  Two rules that are equal, a nonterminal without a rule: by the program and by the plain answers.
  Symbols that can stand where they do: by the program and by the plain answers.
  append of whatever list of one-cell values to a row of the call's own, nil included: at a plain region and at a region that draws its order. No condition but that the sizes fit.
  The plain answers of layer 6: the list of all names, a name's place, Name, Find.
  A name that occurs twice: by the program (a map of the names) and by the plain answers (each name's place among those ahead of it).
-/
import Derived.Test.YtjjmoonajijnmaaMSame
import Derived.Test.YtjjmoonajijnmaaGramOf
import Derived.Test.YtjjmoonajijnmaaMMuch
import Derived.Deep.RegionWith
import Derived.Deep.AppendLies
namespace Go.Proofs.Ytjjmoonajijnmaa.Gr
open Go.RowKit Go.Maps
set_option linter.unusedVariables false

/-- The first rule that is so, or -1. -/
def fidx (p : Int × List Int → Bool) (R : List (Int × List Int)) : Int := match R.findIdx? p with | some i => (i : Int) | Option.none => -1
/-- None of the first k is so. -/
def NoneTo (p : Int × List Int → Bool) (R : List (Int × List Int)) (k : Nat) : Prop := ∀ j (h : j < R.length), j < k → p R[j] = false
theorem noneTo_zero (p : Int × List Int → Bool) (R : List (Int × List Int)) : NoneTo p R 0 := fun _ _ h => absurd h (by omega)
theorem noneTo_step {p : Int × List Int → Bool} {R : List (Int × List Int)} {k : Nat} (h : NoneTo p R k) (hk : k < R.length) (e : p R[k] = false) : NoneTo p R (k + 1) := fun j hj hl => by
  by_cases he : j = k
  · subst he
    exact e
  · exact h j hj (by omega)
theorem fidx_hit {p : Int × List Int → Bool} {R : List (Int × List Int)} {k : Nat} (h : NoneTo p R k) (hk : k < R.length) (e : p R[k] = true) : fidx p R = (k : Int) := by
  have : R.findIdx? p = some k := by
    rw [List.findIdx?_eq_some_iff_getElem]
    exact ⟨hk, e, fun j hj => by simpa using h j (by omega) hj⟩
  simp [fidx, this]
theorem fidx_end {p : Int × List Int → Bool} {R : List (Int × List Int)} {k : Nat} (h : NoneTo p R k) (hk : ¬ k < R.length) : fidx p R = -1 := by
  have : R.findIdx? p = Option.none := by
    rw [List.findIdx?_eq_none_iff]
    intro x hx
    obtain ⟨j, hj, rfl⟩ := List.mem_iff_getElem.1 hx
    exact h j hj (by omega)
  simp [fidx, this]
theorem fidx_any (p : Int × List Int → Bool) (R : List (Int × List Int)) : decide (0 ≤ fidx p R) = R.any p := by
  unfold fidx
  cases h : R.findIdx? p with
  | none =>
    rw [List.findIdx?_eq_none_iff] at h
    simp [List.any_eq_false.2 (fun x hx => by simpa using h x hx)]
  | some i =>
    rw [List.findIdx?_eq_some_iff_getElem] at h
    obtain ⟨hi, e, _⟩ := h
    rw [List.any_eq_true.2 ⟨_, List.getElem_mem hi, e⟩]
    simp

def bigB (r : Int × List Int) : Bool := decide (8 < r.2.length)

theorem big_any (r : Int × List Int) (a : Option Addr) (c : Nat) (w : World) (hl : r.2.length ≤ 17592186044416) :
    Calls Try.prog 45 #[.agg #[.int .i64 r.1, .slice a r.2.length c]] w (Is (.bool (bigB r)) w) := by
  by_cases h : 8 < r.2.length
  · have E := Lib.hid (show bigB r = true by simp [bigB, h])
    go_enter Try.func45, Try.ntmps45
    go_wp2
    go_ret
    refine ⟨bool_of ?_, boxed _ _⟩
    rw [E.out]
    simp
    omega
  · have E := Lib.hid (show bigB r = false by simp [bigB, h])
    go_enter Try.func45, Try.ntmps45
    go_wp2
    go_ret
    refine ⟨bool_of ?_, boxed _ _⟩
    rw [E.out]
    simp
    omega

/-- The closure holds the rule that lies there. -/
def RuleBox (q : Nat) (r : Int × List Int) (w : World) : Prop := ∃ a c, w.cell? ⟨q, 0, none⟩ = some (.int .i64 r.1) ∧ w.cell? ⟨q, 1, none⟩ = some (.slice a r.2.length c) ∧ Sep.Reads a (ivs r.2) w ∧ r.2.length ≤ 17592186044416
theorem RuleBox.later {q : Nat} {r : Int × List Int} {w w' : World} (h : RuleBox q r w) (hb : Below w.heap.size w w') : RuleBox q r w' := by
  obtain ⟨a, c, h1, h2, h3, h4⟩ := h
  exact ⟨a, c, cell_later hb h1, cell_later hb h2, h3.below hb (Nat.le_refl _), h4⟩

set_option maxHeartbeats 1000000 in
theorem old_any (q : Nat) (r o : Int × List Int) (a : Option Addr) (c : Nat) (w : World) (hq : RuleBox q r w) (ha : Sep.Reads a (ivs o.2) w) (hl : o.2.length ≤ 17592186044416) :
    Calls Try.prog 51 #[.agg #[.int .i64 o.1, .slice a o.2.length c], .pointer (some ⟨q, 0, none⟩)] w (Is (.bool (sameR o r)) w) := by
  obtain ⟨a', c', h1, h2, h3, h4⟩ := hq
  have H := Lib.hid (fun w1 (k : Below w.heap.size w w1) => samer_any o r a a' c c' w1 (ha.below k (Nat.le_refl _)) (h3.below k (Nat.le_refl _)) hl h4)
  have hlt : q < w.heap.size := World.block_lt_of_cell? w ⟨q, 0, none⟩ h1
  clear ha h3
  go_enter Try.func51, Try.ntmps51
  go_wp2_with (go_at_call 52; refine (H.out _ (boxed _ _)).mono ?_; rintro e w1 ⟨rfl, hb⟩; have HB := Lib.hid (step (boxed _ _) hb); clear hb)
  go_ret
  exact ⟨rfl, HB.out⟩

set_option maxHeartbeats 2000000 in
theorem index_big (R : List (Int × List Int)) (a : Option Addr) (c : Nat) (w : World) (ha : RulesAt a R w) (hl : R.length ≤ 4398046511104) :
    Calls Try.prog 56 #[.slice a R.length c, .func (.func 45) #[] #[]] w (Is (.int .i64 (fidx bigB R)) w) := by
  have HA := Lib.hid (fun w1 (k : Below w.heap.size w w1) => ha.below k (Nat.le_refl _))
  clear ha
  go_enter Try.func56, Try.ntmps56
  go_wp2
  go_loopw [8] (fun i wr => ∃ k : Nat, k ≤ R.length ∧ i = .int .i64 k ∧ NoneTo bigB R k ∧ Below w.heap.size w wr) (fun i _ => R.length - (intOf i).toNat)
  case atStart => exact ⟨0, Nat.zero_le _, rfl, noneTo_zero _ _, .refl _ _⟩
  case round =>
    obtain ⟨k, hk, rfl, hA, hW⟩ := hrel
    have A := Lib.hid hA
    have HW := Lib.hid hW
    clear hA
    by_cases hlt : k < R.length
    · obtain ⟨b1, o1, ra, rc, rfl, h1, h2, h3, h4, h5⟩ := HA.out _ hW k hlt
      have AE := Lib.hid (fun he => noneTo_step A.out hlt he)
      have AF := Lib.hid (fun he => fidx_hit A.out hlt he)
      generalize R[k] = x at h1 h2 h3 h4 h5 AE AF
      have HC := Lib.hid (fun w1 (k : Below wr.heap.size wr w1) => big_any x ra rc w1 (by omega))
      clear h3 h4 h5 hW
      cases hs : bigB x with
      | false =>
        rw [hs] at HC
        have A2 := Lib.hid (AE.out hs)
        clear hs
        go_wp2_with (go_at_call 45; refine (HC.out _ (.refl _ _)).mono ?_; rintro e w1 ⟨rfl, hb⟩; have HB := Lib.hid (step HW.out hb); clear hb)
        go_roundw
        case rel => exact ⟨k + 1, by omega, by go_num, A2.out, HB.out⟩
        case measure => simp [intOf]; omega
      | true =>
        rw [hs] at HC
        have F := Lib.hid (AF.out hs)
        clear hs
        go_wp2_with (go_at_call 45; refine (HC.out _ (.refl _ _)).mono ?_; rintro e w1 ⟨rfl, hb⟩; have HB := Lib.hid (step HW.out hb); clear hb)
        go_ret
        exact ⟨int_of F.out, HB.out⟩
    · have F := Lib.hid (fidx_end A.out hlt)
      clear hW
      go_wp2
      go_ret
      exact ⟨int_of F.out, HW.out⟩

theorem contains_big (R : List (Int × List Int)) (a : Option Addr) (c : Nat) (w : World) (ha : RulesAt a R w) (hl : R.length ≤ 4398046511104) :
    Calls Try.prog 44 #[.slice a R.length c, .func (.func 45) #[] #[]] w (Is (.bool (R.any bigB)) w) := by
  have H := Lib.hid (index_big R a c w ha hl)
  have E := Lib.hid (fidx_any bigB R)
  clear ha
  generalize fidx bigB R = n at H E
  go_enter Try.func44, Try.ntmps44
  go_wp2_with (go_at_call 56; refine H.out.mono ?_; rintro e w1 ⟨rfl, hb⟩; have HB := Lib.hid hb; clear hb)
  go_ret
  exact ⟨bool_of E.out.symm, HB.out⟩

set_option maxHeartbeats 2000000 in
theorem index_old (q : Nat) (r : Int × List Int) (R : List (Int × List Int)) (a : Option Addr) (c : Nat) (w : World) (ha : RulesAt a R w) (hl : R.length ≤ 4398046511104) (hq : RuleBox q r w) :
    Calls Try.prog 56 #[.slice a R.length c, .func (.func 51) #[] #[.pointer (some ⟨q, 0, none⟩)]] w (Is (.int .i64 (fidx (fun o => sameR o r) R)) w) := by
  have HA := Lib.hid (fun w1 (k : Below w.heap.size w w1) => ha.below k (Nat.le_refl _))
  have HQ := Lib.hid (fun w1 (k : Below w.heap.size w w1) => hq.later k)
  clear hq
  clear ha
  go_enter Try.func56, Try.ntmps56
  go_wp2
  go_loopw [8] (fun i wr => ∃ k : Nat, k ≤ R.length ∧ i = .int .i64 k ∧ NoneTo (fun o => sameR o r) R k ∧ Below w.heap.size w wr) (fun i _ => R.length - (intOf i).toNat)
  case atStart => exact ⟨0, Nat.zero_le _, rfl, noneTo_zero _ _, .refl _ _⟩
  case round =>
    obtain ⟨k, hk, rfl, hA, hW⟩ := hrel
    have A := Lib.hid hA
    have HW := Lib.hid hW
    clear hA
    by_cases hlt : k < R.length
    · obtain ⟨b1, o1, ra, rc, rfl, h1, h2, h3, h4, h5⟩ := HA.out _ hW k hlt
      have AE := Lib.hid (fun he => noneTo_step A.out hlt he)
      have AF := Lib.hid (fun he => fidx_hit A.out hlt he)
      generalize R[k] = x at h1 h2 h3 h4 h5 AE AF
      have HC := Lib.hid (fun w1 (k : Below wr.heap.size wr w1) => old_any q r x ra rc w1 (HQ.out w1 (step hW k)) (Sep.Reads.below h3 k (Nat.le_refl _)) (by omega))
      clear h3 h4 h5 hW
      cases hs : sameR x r with
      | false =>
        rw [hs] at HC
        have A2 := Lib.hid (AE.out hs)
        clear hs
        go_wp2_with (go_at_call 51; refine (HC.out _ (.refl _ _)).mono ?_; rintro e w1 ⟨rfl, hb⟩; have HB := Lib.hid (step HW.out hb); clear hb)
        go_roundw
        case rel => exact ⟨k + 1, by omega, by go_num, A2.out, HB.out⟩
        case measure => simp [intOf]; omega
      | true =>
        rw [hs] at HC
        have F := Lib.hid (AF.out hs)
        clear hs
        go_wp2_with (go_at_call 51; refine (HC.out _ (.refl _ _)).mono ?_; rintro e w1 ⟨rfl, hb⟩; have HB := Lib.hid (step HW.out hb); clear hb)
        go_ret
        exact ⟨int_of F.out, HB.out⟩
    · have F := Lib.hid (fidx_end A.out hlt)
      clear hW
      go_wp2
      go_ret
      exact ⟨int_of F.out, HW.out⟩

theorem contains_old (q : Nat) (r : Int × List Int) (R : List (Int × List Int)) (a : Option Addr) (c : Nat) (w : World) (ha : RulesAt a R w) (hl : R.length ≤ 4398046511104) (hq : RuleBox q r w) :
    Calls Try.prog 44 #[.slice a R.length c, .func (.func 51) #[] #[.pointer (some ⟨q, 0, none⟩)]] w (Is (.bool (R.any (fun o => sameR o r))) w) := by
  have H := Lib.hid (index_old q r R a c w ha hl hq)
  have E := Lib.hid (fidx_any (fun o => sameR o r) R)
  clear ha
  generalize fidx (fun o => sameR o r) R = n at H E
  go_enter Try.func44, Try.ntmps44
  go_wp2_with (go_at_call 56; refine H.out.mono ?_; rintro e w1 ⟨rfl, hb⟩; have HB := Lib.hid hb; clear hb)
  go_ret
  exact ⟨bool_of E.out.symm, HB.out⟩

set_option maxHeartbeats 1000000 in
theorem many_any (h : Sh) (G : Gram) (w : World) (k : GAt h G w) :
    Calls Try.prog 33 #[gv h G] w (Is (.bool (manyB G)) w) := by
  have t := k.t2
  have n := k.n2
  have r := k.r2
  have X := Lib.hid (Bx.start h G w 36)
  have C := Lib.hid (fun w1 (b : Below w.heap.size w w1) => contains_big G.rules h.a3 h.c3 w1 (k.went b).rules r)
  clear k
  have E := Lib.hid (show manyB G = (decide (120 < G.terms.length) || decide (120 < G.nons.length) || decide (300 < G.rules.length) || G.rules.any bigB) from rfl)
  unfold gv
  generalize G.rules.any bigB = b at *
  by_cases h1 : 120 < G.terms.length
  · rw [decide_eq_true h1] at E
    simp only [Bool.true_or] at E
    go_enter Try.func33, Try.ntmps33
    go_wp2
    go_ret
    exact ⟨bool_of E.out, X.out.below⟩
  · rw [decide_eq_false h1, Bool.false_or] at E
    by_cases h2 : 120 < G.nons.length
    · rw [decide_eq_true h2] at E
      simp only [Bool.true_or] at E
      go_enter Try.func33, Try.ntmps33
      go_wp2
      go_ret
      exact ⟨bool_of E.out, X.out.below⟩
    · rw [decide_eq_false h2, Bool.false_or] at E
      by_cases h3 : 300 < G.rules.length
      · rw [decide_eq_true h3] at E
        simp only [Bool.true_or] at E
        go_enter Try.func33, Try.ntmps33
        go_wp2
        go_ret
        exact ⟨bool_of E.out, X.out.below⟩
      · rw [decide_eq_false h3, Bool.false_or] at E
        go_enter Try.func33, Try.ntmps33
        go_wp2_with (go_at_call 44; refine (C.out _ X.out.below).mono ?_; rintro e w1 ⟨rfl, hb⟩; have X := Lib.hid (X.out.went hb); clear hb)
        go_ret
        exact ⟨bool_of E.out, X.out.below⟩

theorem any_false_upto {R : List (Int × List Int)} {p : Int × List Int → Bool} {k : Nat} (h : NoneTo p R k) (hk : ¬ k < R.length) : R.any p = false := by
  rw [← fidx_any, fidx_end h hk]
  rfl
theorem any_true_at {R : List (Int × List Int)} {p : Int × List Int → Bool} {k : Nat} (hk : k < R.length) (e : p R[k] = true) : R.any p = true := List.any_eq_true.2 ⟨_, List.getElem_mem hk, e⟩

end Go.Proofs.Ytjjmoonajijnmaa.Gr

namespace Go.Proofs.Ytjjmoonajijnmaa.Gr
open Go.RowKit Go.Maps
set_option linter.unusedVariables false

set_option maxHeartbeats 2000000 in
set_option maxRecDepth 100000 in
theorem rof_any (h : Sh) (G : Gram) (s : Int) (w : World) (k : GAt h G w) (hr : G.rules.length ≤ 65536) :
    Calls Try.prog 32 #[gv h G, .int .i64 s] w (Listed (ofL G s) w) := by
  obtain ⟨i0, hi, hz0, hz1, hz2⟩ := info_parts info_int
  obtain ⟨a1, c1, a2, c2, a3, c3⟩ := h
  have hc3 := k.r2
  have X := Lib.hid (Bx.start ⟨a1, c1, a2, c2, a3, c3⟩ G w 36)
  have K := Lib.hid (fun w1 (b : Below w.heap.size w w1) => (k.went b).rules)
  clear k
  have HO := Lib.hid (show (w.alloc (.cells #[.slice a1 G.terms.length c1, .slice a2 G.nons.length c2, .slice a3 G.rules.length c3, .int .i64 G.start] 36)).ownsRow (w.heap.size + 1) 3 1 (.slice none 0 0) (ofI G.rules s 0).length (ivs (ofI G.rules s 0)) from ⟨rfl, .inl ⟨rfl, rfl⟩⟩)
  unfold gv
  dsimp only
  go_enter Try.func32, Try.ntmps32
  go_wp2
  go_loopw [5, 6] (fun v i wr => ∃ j : Nat, j ≤ G.rules.length ∧ i = .int .i64 j ∧ wr.ownsRow (w.heap.size + 1) 3 1 v (ofI G.rules s j).length (ivs (ofI G.rules s j)) ∧ Bx w ⟨a1, c1, a2, c2, a3, c3⟩ G wr) (fun _ i _ => G.rules.length - (intOf i).toNat)
  case atStart => exact ⟨0, Nat.zero_le _, rfl, HO.out, X.out⟩
  case round =>
    obtain ⟨j, hj, rfl, hO, hX⟩ := hrel
    obtain ⟨a', c', rfl⟩ := Sep.ownsRow_shape hO
    clear HO X
    have X := Lib.hid hX
    have HO := Lib.hid hO
    have hle := ofI_le G.rules s j
    clear hO hX
    by_cases hlt : j < G.rules.length
    · obtain ⟨b, o, ra, rc, e, h1, h2, h3, h4, h5⟩ := K.out _ X.out.below j hlt
      have e1 := leftOf_get hlt
      rw [← e1] at h1
      generalize G.rules[j].2 = rr at h2 h3 h4 h5
      try dsimp only at e
      subst e
      obtain ⟨x0, x1, x2, x3⟩ := X.out.box
      clear e1 h3
      by_cases hs : leftOf G.rules j = s
      · have HI := Lib.hid (ofI_hit hs)
        subst hs
        generalize leftOf G.rules j = s at *
        go_wp2_with (at_builtin; go_loud (refine wpList_append_own _ rfl _ _ 24 rfl (w.heap.size + 1) 3 i0 (.int .i64 0) 1 8 Try.underlying24 hi hz0 hz1 hz2 rfl (by decide) _ _ _ rfl (HO.out.alloc _) ⟨wr.heap.size, 0, none⟩ 1 1 [iv j] rfl rfl ?c1 ?c2 ?c3 ?c4 ?c5 ?_))
        case c1 =>
          intro i u hi
          match i, hi with
          | 0, hi => simp at hi; subst hi; simp [iv]
        case c2 => first | rfl | (intro u hu; simp at hu; subst hu; rfl)
        case c3 => unfold maxLen; omega
        case c4 => omega
        case c5 => have := X.out.size; simp; omega
        intro v' w2 hown' hgrow _
        have X := Lib.hid ((X.out.alloc _).grown hgrow fun q hq => (HO.out.lt q hq).1)
        have HO := Lib.hid (show w2.ownsRow (w.heap.size + 1) 3 1 v' (ofI G.rules s (j + 1)).length (ivs (ofI G.rules s (j + 1))) by rw [HI.out]; simpa [ivs] using hown')
        clear hown' hgrow
        go_wp2
        go_roundw
        case rel => exact ⟨j + 1, by omega, by go_num, HO.out, X.out⟩
        case measure => simp [intOf]; omega
      · have HI := Lib.hid (ofI_miss hs)
        have hb : (leftOf G.rules j == s) = false := by simpa using hs
        clear hs
        go_wp2_with (at_builtin; fail)
        go_roundw
        case rel => exact ⟨j + 1, by omega, by go_num, by rw [HI.out]; exact HO.out, X.out⟩
        case measure => simp [intOf]; omega
    · have hE : j = G.rules.length := by omega
      subst hE
      have HR := Lib.hid (Sep.Reads.of_row HO.out)
      have HN := Lib.hid (row_new (W := w) HO.out (by omega))
      obtain ⟨x0, x1, x2, x3⟩ := X.out.box
      go_wp2
      go_ret
      exact ⟨_, _, rfl, HR.out, HN.out, X.out.below⟩

theorem firstR_some {G : Gram} {i : Nat} {x : Int} {l : List Int} (h : ofL G ((G.terms.length : Int) + 1 + i) = x :: l) : x = (firstR G i : Int) := by
  unfold firstR
  unfold ofL ofI at h
  change List.map _ (ofN G ((G.terms.length : Int) + 1 + i)) = _ at h
  cases e : ofN G ((G.terms.length : Int) + 1 + i) with
  | nil => rw [e] at h; cases h
  | cons y r =>
    rw [e] at h
    simp only [List.map_cons, List.cons.injEq] at h
    simp [← h.1]
theorem firstR_none {G : Gram} {i : Nat} (h : ofL G ((G.terms.length : Int) + 1 + i) = []) : firstR G i = G.rules.length := by
  unfold firstR
  unfold ofL ofI at h
  change List.map _ (ofN G ((G.terms.length : Int) + 1 + i)) = _ at h
  rw [List.map_eq_nil_iff] at h
  simp [h]

end Go.Proofs.Ytjjmoonajijnmaa.Gr

namespace Go.Proofs.Ytjjmoonajijnmaa.Gr
open Go.RowKit Go.Maps
set_option linter.unusedVariables false

theorem rules_take {a : Option Addr} {R : List (Int × List Int)} {w : World} (h : RulesAt a R w) (k : Nat) : RulesAt a (R.take k) w := fun i hi => by
  have hi' : i < R.length := by rw [List.length_take] at hi; omega
  have := h i hi'
  rw [← List.getElem_take (h := hi)] at this
  exact this
theorem old_next {R : List (Int × List Int)} {k : Nat} (hk : k < R.length) (h : (R.take k).Nodup) (ha : (R.take k).any (fun o => sameR o R[k]) = false) : (R.take (k + 1)).Nodup := by
  rw [List.take_succ_eq_append_getElem hk, List.nodup_append]
  refine ⟨h, by simp, fun a hm b hb => ?_⟩
  simp only [List.mem_singleton] at hb
  subst hb
  rintro rfl
  have := List.any_eq_false.1 ha _ hm
  exact this (sameR_iff.2 rfl)
theorem old_fail {R : List (Int × List Int)} {k : Nat} (hk : k < R.length) (ha : (R.take k).any (fun o => sameR o R[k]) = true) : ¬ R.Nodup := by
  intro hN
  obtain ⟨o, hm, he⟩ := List.any_eq_true.1 ha
  rw [sameR_iff] at he
  subst he
  obtain ⟨i, hi', e⟩ := List.mem_iff_getElem.1 hm
  simp at hi'
  rw [List.getElem_take] at e
  have := (List.getElem_inj hN (i := i) (j := k) (h₀ := by omega) (h₁ := hk)).1 e
  omega

set_option maxRecDepth 100000 in
set_option maxHeartbeats 4000000 in
theorem ruledTwice_any (h : Sh) (G : Gram) (w : World) (k : GAt h G w) :
    Calls Try.prog 37 #[gv h G] w (Is (.bool (!unlikeB G)) w) := by
  have hc3 := k.r2
  have hcap := k.r1
  obtain ⟨a1, c1, a2, c2, a3, c3⟩ := h
  have X := Lib.hid (Bx.start ⟨a1, c1, a2, c2, a3, c3⟩ G w 36)
  have K := Lib.hid (show ∀ w1, Below w.heap.size w w1 → RulesAt a3 G.rules w1 from fun w1 (b : Below w.heap.size w w1) => (k.went b).rules)
  have hmf : ∀ (fn : Fn) (first cap : Array Value) (w : World), (Instr.makeFunc fn first cap).run Try.prog w = .ok (.func fn first cap) w := fun _ _ _ _ => rfl
  clear k
  dsimp only at hcap
  unfold gv
  dsimp only
  go_enter Try.func37, Try.ntmps37
  go_wp2
  go_loopw [8] (fun i wr => ∃ j : Nat, j ≤ G.rules.length ∧ i = .int .i64 j ∧ (G.rules.take j).Nodup ∧ Bx w ⟨a1, c1, a2, c2, a3, c3⟩ G wr) (fun i _ => G.rules.length - (intOf i).toNat)
  case atStart => exact ⟨0, Nat.zero_le _, rfl, by simp, X.out⟩
  case round =>
    clear X
    obtain ⟨j, hj, rfl, hA, hX⟩ := hrel
    have A := Lib.hid hA
    have X := Lib.hid hX
    obtain ⟨x0, x1, x2, x3⟩ := hX.box
    clear hA hX
    by_cases hlt : j < G.rules.length
    · obtain ⟨b, o, ra, rc, e, h1, h2, h3, h4, h5⟩ := K.out _ X.out.below j hlt
      try dsimp only at e
      subst e
      have hsz : w.heap.size < wr.heap.size := X.out.size
      have AE := Lib.hid (fun he => old_next hlt A.out he)
      have AF := Lib.hid (fun he => old_fail hlt he)
      generalize G.rules[j] = r at h1 h2 h3 h4 h5 AE AF
      have RB := Lib.hid (show RuleBox wr.heap.size r (wr.alloc (.cells #[.int .i64 r.1, .slice ra r.2.length rc] 47)) from ⟨ra, rc, cell_new rfl rfl, cell_new rfl rfl, Sep.Reads.below h3 (boxed _ _) (Nat.le_refl _), by omega⟩)
      have HC := Lib.hid (show Calls Try.prog 44 #[.slice (some ⟨b, o, none⟩) j c3, .func (.func 51) #[] #[.pointer (some ⟨wr.heap.size, 0, none⟩)]] (wr.alloc (.cells #[.int .i64 r.1, .slice ra r.2.length rc] 47)) (Is (.bool ((G.rules.take j).any (fun o => sameR o r))) (wr.alloc (.cells #[.int .i64 r.1, .slice ra r.2.length rc] 47))) from by
        have := contains_old wr.heap.size r (G.rules.take j) (some ⟨b, o, none⟩) c3 _ (rules_take (K.out _ (X.out.alloc _).below) j) (by rw [List.length_take]; omega) RB.out
        rw [List.length_take, Nat.min_eq_left hj] at this
        exact this)
      clear h3 h4 h5 RB
      cases hs : (G.rules.take j).any (fun o => sameR o r) with
      | false =>
        rw [hs] at HC
        have A2 := Lib.hid (AE.out hs)
        clear hs
        go_wp2_with (go_at_call 44; refine HC.out.mono ?_; rintro e w1 ⟨rfl, hb⟩; have X := Lib.hid ((X.out.alloc _).went hb); clear hb)
        go_roundw
        case rel => exact ⟨j + 1, by omega, by go_num, A2.out, X.out⟩
        case measure => simp [intOf]; omega
      | true =>
        rw [hs] at HC
        have F := Lib.hid (AF.out hs)
        clear hs
        go_wp2_with (go_at_call 44; refine HC.out.mono ?_; rintro e w1 ⟨rfl, hb⟩; have X := Lib.hid ((X.out.alloc _).went hb); clear hb)
        go_ret
        exact ⟨bool_of (by unfold unlikeB; rw [decide_eq_false F.out]; rfl), X.out.below⟩
    · have F := Lib.hid (show G.rules.Nodup by have h1 := A.out; rw [List.take_of_length_le (by omega)] at h1; exact h1)
      go_wp2
      go_ret
      exact ⟨bool_of (by unfold unlikeB; rw [decide_eq_true F.out]; rfl), X.out.below⟩

/-! ### The plain answers: unlike -/

/-- Five cells that stay, and that only new blocks are made. -/
def Five1 (w : World) (p1 p2 p3 p4 p5 : Addr) (v1 v2 v3 v4 v5 : Value) : Prop :=
  ∀ w', Below w.heap.size w w' → w'.cell? p1 = some v1 ∧ w'.cell? p2 = some v2 ∧ w'.cell? p3 = some v3 ∧ w'.cell? p4 = some v4 ∧ w'.cell? p5 = some v5 ∧ Below w.heap.size w w'
theorem five1 {w : World} {p1 p2 p3 p4 p5 : Addr} {v1 v2 v3 v4 v5 : Value} (h1 : w.cell? p1 = some v1) (h2 : w.cell? p2 = some v2) (h3 : w.cell? p3 = some v3) (h4 : w.cell? p4 = some v4) (h5 : w.cell? p5 = some v5) : Five1 w p1 p2 p3 p4 p5 v1 v2 v3 v4 v5 :=
  fun _ hb => ⟨cell_later hb h1, cell_later hb h2, cell_later hb h3, cell_later hb h4, cell_later hb h5, hb⟩

/-- None of the first m is the k-th. -/
def Unl (R : List (Int × List Int)) (k m : Nat) : Prop := ∀ i (hi : i < R.length) (hk : k < R.length), i < m → R[k] ≠ R[i]
theorem unl_zero (R : List (Int × List Int)) (k : Nat) : Unl R k 0 := fun _ _ _ h => absurd h (by omega)
theorem unl_step {R : List (Int × List Int)} {k m : Nat} (h : Unl R k m) (hm : m < R.length) (hk : k < R.length) (e : R[k] ≠ R[m]) : Unl R k (m + 1) := fun i hi hk' hl => by
  by_cases he : i = m
  · subst he
    exact e
  · exact h i hi hk' (by omega)
theorem unl_end {R : List (Int × List Int)} {k : Nat} (h : Unl R k k) (hk : k < R.length) (hN : (R.take k).Nodup) : (R.take (k + 1)).Nodup := by
  rw [List.take_succ_eq_append_getElem hk, List.nodup_append]
  refine ⟨hN, by simp, fun a hm b hb => ?_⟩
  simp only [List.mem_singleton] at hb
  subst hb
  obtain ⟨i, hi', e⟩ := List.mem_iff_getElem.1 hm
  simp at hi'
  rw [List.getElem_take] at e
  exact fun h' => h i (by omega) hk (by omega) (by rw [e, h'])
theorem unl_fail {R : List (Int × List Int)} {k m : Nat} (hk : k < R.length) (hm : m < k) (e : R[k] = R[m]) : ¬ R.Nodup := by
  intro hN
  have := (List.getElem_inj hN (i := k) (j := m) (h₀ := hk) (h₁ := by omega)).1 e
  omega

/-! ### A nonterminal without a rule -/

theorem ruled_end {G : Gram} {k : Nat} (h : ∀ i, i < k → 0 < (ofL G ((G.terms.length : Int) + 1 + i)).length) (hk : ¬ k < G.nons.length) : ruledB G = true := by
  unfold ruledB
  rw [List.all_eq_true]
  intro i hi
  have := h i (by have := List.mem_range.1 hi; omega)
  rw [ofL_length] at this
  cases e : ofN G ((G.terms.length : Int) + 1 + i) with
  | nil => rw [e] at this; simp at this
  | cons x l => rfl
theorem ruled_fail {G : Gram} {k : Nat} (hk : k < G.nons.length) (h : ¬ 0 < (ofL G ((G.terms.length : Int) + 1 + k)).length) : ruledB G = false := by
  unfold ruledB
  rw [List.all_eq_false]
  refine ⟨k, List.mem_range.2 hk, ?_⟩
  rw [ofL_length] at h
  cases e : ofN G ((G.terms.length : Int) + 1 + k) with
  | nil => simp
  | cons x l => rw [e] at h; simp at h

set_option maxRecDepth 100000 in
set_option maxHeartbeats 4000000 in
theorem unruled_any (h : Sh) (G : Gram) (w : World) (k : GAt h G w) (hr : G.rules.length ≤ 65536) :
    Calls Try.prog 38 #[gv h G] w (Is (.bool (!ruledB G)) w) := by
  have t := k.t2
  have n := k.n2
  have T := Lib.hid (fun w1 (b : Below w.heap.size w w1) => top_any h G w1 (k.went b))
  have N := Lib.hid (fun s w1 (b : Below w.heap.size w w1) => of_any h G s w1 (k.went b) hr)
  have X := Lib.hid (Bx.start h G w 36)
  have htop : (top G : Int) = (G.terms.length : Int) + (G.nons.length : Int) := by unfold top; omega
  have HT := Lib.hid htop
  generalize top G = tp at T htop
  clear k HT
  unfold gv
  go_enter Try.func38, Try.ntmps38
  go_wp2
  go_loopw [3] (fun i wr => ∃ j : Nat, j ≤ G.nons.length ∧ i = .int .i64 ((G.terms.length : Int) + 1 + j) ∧ (∀ i, i < j → 0 < (ofL G ((G.terms.length : Int) + 1 + i)).length) ∧ Bx w h G wr) (fun i _ => (G.terms.length + G.nons.length + 1) - (intOf i).toNat)
  case atStart => exact ⟨0, Nat.zero_le _, by go_num, fun _ h => absurd h (by omega), X.out⟩
  case round =>
    clear X
    obtain ⟨j, hj, rfl, hA, hX⟩ := hrel
    have A := Lib.hid hA
    have X := Lib.hid hX
    obtain ⟨x0, x1, x2, x3⟩ := hX.box
    clear hA hX
    by_cases hlt : j < G.nons.length
    · have NN := Lib.hid (N.out ((G.terms.length : Int) + 1 + j))
      have F3 := Lib.hid (ruled_fail (G := G) (k := j) hlt)
      have F4 := Lib.hid (fun (h0 : 0 < (ofL G ((G.terms.length : Int) + 1 + j)).length) i (hi : i < j + 1) => show 0 < (ofL G ((G.terms.length : Int) + 1 + i)).length by
        by_cases e : i = j
        · subst e; exact h0
        · exact A.out i (by omega))
      generalize hL : ofL G ((G.terms.length : Int) + 1 + j) = L at NN F3 F4
      clear hL
      rcases L with _ | ⟨x, l⟩
      · have F := Lib.hid (F3.out (by simp))
        clear F3 F4
        go_wp2_with (first
          | (go_at_call 48; refine (T.out _ X.out.below).mono ?_; rintro e w1 ⟨rfl, hb⟩; have X := Lib.hid (X.out.went hb); obtain ⟨x0, x1, x2, x3⟩ := X.out.box; clear hb)
          | (go_at_call 53; refine (NN.out _ X.out.below).mono ?_; rintro e w2 ⟨a', c', rfl, hr, hn, hb⟩; have X := Lib.hid (X.out.went hb); clear hb hr hn))
        go_ret
        exact ⟨bool_of (by rw [F.out]; rfl), X.out.below⟩
      · have F := Lib.hid (F4.out (by simp))
        clear F3 F4
        go_wp2_with (first
          | (go_at_call 48; refine (T.out _ X.out.below).mono ?_; rintro e w1 ⟨rfl, hb⟩; have X := Lib.hid (X.out.went hb); obtain ⟨x0, x1, x2, x3⟩ := X.out.box; clear hb)
          | (go_at_call 53; refine (NN.out _ X.out.below).mono ?_; rintro e w2 ⟨a', c', rfl, hr, hn, hb⟩; have X := Lib.hid (X.out.went hb); clear hb hr hn))
        go_roundw
        case rel => exact ⟨j + 1, by omega, by go_num, F.out, X.out⟩
        case measure => simp [intOf]; omega
    · have F := Lib.hid (ruled_end A.out hlt)
      go_wp2_with (go_at_call 48; refine (T.out _ X.out.below).mono ?_; rintro e w1 ⟨rfl, hb⟩; have X := Lib.hid (X.out.went hb); clear hb)
      go_ret
      exact ⟨bool_of (by rw [F.out]; rfl), X.out.below⟩

end Go.Proofs.Ytjjmoonajijnmaa.Gr

namespace Go.Proofs.Ytjjmoonajijnmaa.Gr
open Go.RowKit Go.Maps
set_option linter.unusedVariables false

/-- A symbol on a right side. -/
def symB (G : Gram) (x : Int) : Bool := decide (1 ≤ x ∧ x ≤ (top G : Int))
def ruleOk (G : Gram) (r : Int × List Int) : Bool := nonB G r.1 && r.2.all (symB G)
theorem known_eq (G : Gram) : knownB G = (nonB G G.start && G.rules.all (ruleOk G)) := rfl
theorem symB_iff {G : Gram} {x : Int} : symB G x = true ↔ 1 ≤ x ∧ x ≤ (top G : Int) := by
  unfold symB
  rw [decide_eq_true_iff]
theorem symB_not {G : Gram} {x : Int} : symB G x = false ↔ x < 1 ∨ (top G : Int) < x := by
  rw [← Bool.not_eq_true, symB_iff]
  omega
theorem symB_or (G : Gram) (x : Int) : symB G x = (termB G x || nonB G x) := by
  rw [Bool.eq_iff_iff, Bool.or_eq_true, symB_iff, termB_iff, nonB_iff]
  unfold top
  omega
theorem known_empty {G : Gram} (h : G.nons.length = 0) : knownB G = false := by
  have : nonB G G.start = false := by rw [nonB_not]; omega
  rw [known_eq, this, Bool.false_and]
/-- The k-th number of a list that reads. -/
theorem int_at {L : List Int} {a : Option Addr} {w : World} (h : Sep.Reads a (ivs L) w) {k : Nat} (hk : k < L.length) : ∃ b o, a = some ⟨b, o, none⟩ ∧ w.cell? ⟨b, o + k, none⟩ = some (.int .i64 L[k]) :=
  reads_get h (by simp [ivs]) hk (by simp [ivs, iv, hk])

set_option maxHeartbeats 8000000 in
theorem misnumbered_any (h : Sh) (G : Gram) (w : World) (k : GAt h G w) :
    Calls Try.prog 36 #[gv h G] w (Is (.bool (!knownB G)) w) := by
  have hc3 := k.r2
  obtain ⟨a1, c1, a2, c2, a3, c3⟩ := h
  have X := Lib.hid (Bx.start ⟨a1, c1, a2, c2, a3, c3⟩ G w 36)
  have N := Lib.hid (fun s w1 (b : Below w.heap.size w w1) => non_any ⟨a1, c1, a2, c2, a3, c3⟩ G s w1 (k.went b))
  have T := Lib.hid (fun w1 (b : Below w.heap.size w w1) => top_any ⟨a1, c1, a2, c2, a3, c3⟩ G w1 (k.went b))
  have K := Lib.hid (fun w1 (b : Below w.heap.size w w1) => (k.went b).rules)
  clear k
  have E := Lib.hid (known_eq G)
  unfold gv
  dsimp only
  cases h0 : nonB G G.start with
  | false =>
    rw [h0, Bool.false_and] at E
    have NS := Lib.hid (show ∀ w1, Below w.heap.size w w1 → Calls _ _ _ w1 (Is (.bool false) w1) from fun w1 b => by have := N.out G.start w1 b; rw [h0] at this; exact this)
    clear h0
    go_enter Try.func36, Try.ntmps36
    go_wp2_with (go_at_call 50; refine (NS.out _ X.out.below).mono ?_; rintro e w1 ⟨rfl, hb⟩; have X := Lib.hid (X.out.went hb); clear hb)
    go_ret
    exact ⟨bool_of (by rw [E.out]; rfl), X.out.below⟩
  | true =>
    rw [h0, Bool.true_and] at E
    have NS := Lib.hid (show ∀ w1, Below w.heap.size w w1 → Calls _ _ _ w1 (Is (.bool true) w1) from fun w1 b => by have := N.out G.start w1 b; rw [h0] at this; exact this)
    clear h0
    go_enter Try.func36, Try.ntmps36
    go_wp2_with (go_at_call 50; refine (NS.out _ X.out.below).mono ?_; rintro e w1 ⟨rfl, hb⟩; have X := Lib.hid (X.out.went hb); obtain ⟨x0, x1, x2, x3⟩ := X.out.box; clear hb)
    clear NS x0 x1 x2 x3
    go_loopw [15] (fun i wr => ∃ j : Nat, j ≤ G.rules.length ∧ i = .int .i64 j ∧ AllTo (ruleOk G) G.rules j ∧ Bx w ⟨a1, c1, a2, c2, a3, c3⟩ G wr) (fun i _ => G.rules.length - (intOf i).toNat)
    case atStart => exact ⟨0, Nat.zero_le _, rfl, allTo_zero _ _, X.out⟩
    case round =>
      clear X
      obtain ⟨j, hj, rfl, hA, hX⟩ := hrel
      have A := Lib.hid hA
      have X := Lib.hid hX
      obtain ⟨x0, x1, x2, x3⟩ := hX.box
      clear hA hX
      by_cases hlt : j < G.rules.length
      · obtain ⟨b, o, ra, rc, e, h1, h2, h3, h4, h5⟩ := K.out _ X.out.below j hlt
        try dsimp only at e
        subst e
        have hsz : w.heap.size < wr.heap.size := X.out.size
        have AE := Lib.hid (fun he => allTo_step A.out hlt he)
        have AF := Lib.hid (fun he => all_fail (p := ruleOk G) hlt he)
        generalize G.rules[j] = r at h1 h2 h3 h4 h5 AE AF
        have NL := Lib.hid (N.out r.1)
        have HR := Lib.hid (show ∀ w1, Below wr.heap.size wr w1 → Sep.Reads ra (ivs r.2) w1 from fun w1 b => Sep.Reads.below h3 b (Nat.le_refl _))
        have hrl : r.2.length ≤ 17592186044416 := by omega
        clear h3 h4 h5
        cases hn : nonB G r.1 with
        | false =>
          have F := Lib.hid (AF.out (by simp [ruleOk, hn]))
          have NL := Lib.hid (show ∀ w1, Below w.heap.size w w1 → Calls _ _ _ w1 (Is (.bool false) w1) from fun w1 b => by have := NL.out w1 b; rw [hn] at this; exact this)
          clear hn AE AF
          go_wp2_with (go_at_call 50; refine (NL.out _ (X.out.alloc _).below).mono ?_; rintro e w1 ⟨rfl, hb⟩; have X := Lib.hid ((X.out.alloc _).went hb); clear hb)
          go_ret
          exact ⟨bool_of (by rw [E.out, F.out]; rfl), X.out.below⟩
        | true =>
          have AE := Lib.hid (fun (hr : r.2.all (symB G) = true) => AE.out (show ruleOk G r = true by unfold ruleOk; rw [hn, hr]; rfl))
          have AF := Lib.hid (fun (hr : r.2.all (symB G) = false) => AF.out (show ruleOk G r = false by unfold ruleOk; rw [hn, hr]; rfl))
          have NL := Lib.hid (show ∀ w1, Below w.heap.size w w1 → Calls _ _ _ w1 (Is (.bool true) w1) from fun w1 b => by have := NL.out w1 b; rw [hn] at this; exact this)
          clear hn
          go_wp2_with (go_at_call 50; refine (NL.out _ (X.out.alloc _).below).mono ?_; rintro e w1 ⟨rfl, hb⟩; have X := Lib.hid ((X.out.alloc _).went hb); obtain ⟨x0, x1, x2, x3⟩ := X.out.box; have r1 : w1.cell? ⟨wr.heap.size, 1, none⟩ = some (.slice ra r.2.length rc) := cell_later hb (cell_new rfl rfl); have HR := Lib.hid (fun w2 (b : Below w1.heap.size w1 w2) => HR.out w2 (step (boxed _ _) (step hb b))); clear hb)
          clear NL x0 x1 x2 x3 r1
          have X0 := X
          clear X
          go_loopw [27] (fun i wt => ∃ m : Nat, m ≤ r.2.length ∧ i = .int .i64 m ∧ AllTo (symB G) r.2 m ∧ Bx w ⟨a1, c1, a2, c2, some ⟨b, o, none⟩, c3⟩ G wt ∧ Below w1.heap.size w1 wt) (fun i _ => r.2.length - (intOf i).toNat)
          case atStart => exact ⟨0, Nat.zero_le _, rfl, allTo_zero _ _, X0.out, .refl _ _⟩
          case round =>
            clear X0
            obtain ⟨m, hm, rfl, hS, hX, hB⟩ := hrel
            have S := Lib.hid hS
            have X := Lib.hid hX
            have B := Lib.hid hB
            obtain ⟨x0, x1, x2, x3⟩ := hX.box
            clear hS hX hB
            by_cases hlm : m < r.2.length
            · obtain ⟨b2, o2, rfl, hc⟩ := int_at (HR.out _ B.out) hlm
              have SE := Lib.hid (fun he => allTo_step S.out hlm he)
              have SF := Lib.hid (fun he => all_fail (p := symB G) hlm he)
              generalize r.2[m] = x at hc SE SF
              by_cases hx1 : x < 1
              · have F := Lib.hid (AF.out (SF.out (symB_not.2 (.inl hx1))))
                go_wp2
                go_ret
                exact ⟨bool_of (by rw [E.out, F.out]; rfl), X.out.below⟩
              · by_cases hx2 : (top G : Int) < x
                · have F := Lib.hid (AF.out (SF.out (symB_not.2 (.inr hx2))))
                  go_wp2_with (go_at_call 48; refine (T.out _ X.out.below).mono ?_; rintro e w2 ⟨rfl, hb⟩; have X := Lib.hid (X.out.went hb); clear hb)
                  go_ret
                  exact ⟨bool_of (by rw [E.out, F.out]; rfl), X.out.below⟩
                · have S2 := Lib.hid (SE.out (symB_iff.2 ⟨by omega, by omega⟩))
                  go_wp2_with (go_at_call 48; refine (T.out _ X.out.below).mono ?_; rintro e w2 ⟨rfl, hb⟩; have X := Lib.hid (X.out.went hb); have B := Lib.hid (step B.out hb); clear hb)
                  go_roundw
                  case rel => exact ⟨m + 1, by omega, by go_num, S2.out, X.out, B.out⟩
                  case measure => simp [intOf]; omega
            · have A2 := Lib.hid (AE.out (all_end S.out hlm))
              go_wp2
              go_roundw
              case rel => exact ⟨j + 1, by omega, by go_num, A2.out, X.out⟩
              case measure => simp [intOf]; omega
      · have F := Lib.hid (all_end A.out hlt)
        go_wp2
        go_ret
        exact ⟨bool_of (by rw [E.out, F.out]; rfl), X.out.below⟩

/-- Five cells that stay, and that only new blocks are made. -/
def Five (w : World) (p1 p2 p3 p4 p5 : Addr) (v1 v2 v3 v4 v5 : Value) : Prop :=
  ∀ w', Below w.heap.size w w' → w'.cell? p1 = some v1 ∧ w'.cell? p2 = some v2 ∧ w'.cell? p3 = some v3 ∧ w'.cell? p4 = some v4 ∧ w'.cell? p5 = some v5 ∧ Below w.heap.size w w'
theorem five {w : World} {p1 p2 p3 p4 p5 : Addr} {v1 v2 v3 v4 v5 : Value} (h1 : w.cell? p1 = some v1) (h2 : w.cell? p2 = some v2) (h3 : w.cell? p3 = some v3) (h4 : w.cell? p4 = some v4) (h5 : w.cell? p5 = some v5) : Five w p1 p2 p3 p4 p5 v1 v2 v3 v4 v5 :=
  fun _ hb => ⟨cell_later hb h1, cell_later hb h2, cell_later hb h3, cell_later hb h4, cell_later hb h5, hb⟩

end Go.Proofs.Ytjjmoonajijnmaa.Gr

namespace Go.Proofs.Ytjjmoonajijnmaa.Gr
open Go.RowKit Go.Maps
set_option linter.unusedVariables false

theorem run_append_src {P : Program} (w : World) (t ty : TypeId) (base : Nat) (e : TypeId) (i : TypeInfo) (z : Value) (bytes : Nat) (ht : P.underlying t = some (.slice e)) (hi : P.info? e = some i) (hz : i.zero = some z)
    (hsize : i.size = 1) (hby : i.bytes = bytes) (hzs : z.cells.size = 1) (v : Value) (n : Nat) (xs : List Value) (hown : w.ownsRow base e 1 v n xs)
    (a : Option Addr) (m c : Nat) (news : List Value) (hl : news.length = m) (hr : Sep.Reads a news w) (h1 : ∀ u ∈ news, u.oneCell' = true)
    (h63 : n + m ≤ maxLen) (hbytes : (n + m) * bytes ≤ 140737488355328) (hbase : base ≤ w.heap.size) :
    ∃ v' w', (Builtin.append_ #[t, t] ty #[v, .slice a m c]).run P w = .ok v' w' ∧ w'.ownsRow base e 1 v' (n + m) (xs ++ news) ∧ w.grownBy w' v.ownBlock ∧ (v'.ownBlock = v.ownBlock ∨ v'.ownBlock = some w.heap.size) := by
  cases a with
  | some ad =>
    obtain ⟨v', w', h2, h3, h4, _, h5⟩ := run_append_own_at (P := P) w base t ty e i z 1 bytes ht hi hz hsize hby hzs (by decide) v n xs hown ad m c news (by omega) (fun j u hj => by
      obtain ⟨hj1, rfl⟩ := List.getElem?_eq_some_iff.1 hj
      obtain ⟨b, o, e, hc⟩ := hr j hj1
      injection e with e
      subst e
      rw [WideShapes.add_plain]
      exact hc) h1 h63 hbytes hbase
    exact ⟨v', w', h2, h3, h4, h5⟩
  | none =>
    have h0 : news = [] := by
      rcases news with _ | ⟨x, l⟩
      · rfl
      · obtain ⟨_, _, e, _⟩ := hr 0 (by simp)
        cases e
    subst h0
    obtain rfl : m = 0 := by simpa using hl.symm
    refine ⟨v, w, ?_, by simpa using hown, ⟨rfl, rfl, rfl, Nat.le_refl _, fun _ _ _ => rfl⟩, .inl rfl⟩
    rcases hown.2 with ⟨rfl, rfl⟩ | ⟨g, cap, cur, rfl, hbg, hg, hnc, hcm, hcs, htake⟩
    · simp [Builtin.append_, run_underlying ht, sizeOf, typeInfo, hi, Builtin.lenOf, Builtin.firstCells]
    · simp [Builtin.append_, run_underlying ht, sizeOf, typeInfo, hi, Builtin.lenOf, Builtin.firstCells, loadCells, storeCells, hnc]

theorem wp_append_src {P : Program} (w : World) {o : Oper} {a : Act} {K : Act → World → Prop} {Q : Exit → Act → World → Prop} (s x : Operand) (t : TypeId)
    (ho : o.op = .call { callee := .builtin .append, args := #[s, x], argTypes := #[t, t] })
    (base : Nat) (e : TypeId) (i : TypeInfo) (z : Value) (bytes : Nat) (ht : P.underlying t = some (.slice e)) (hi : P.info? e = some i) (hz : i.zero = some z)
    (hsize : i.size = 1) (hby : i.bytes = bytes) (hzs : z.cells.size = 1) (v : Value) (n : Nat) (xs : List Value) (hs : a.eval s = v) (hown : w.ownsRow base e 1 v n xs)
    (ad : Option Addr) (m c : Nat) (news : List Value) (hx : a.eval x = .slice ad m c) (hl : news.length = m) (hr : Sep.Reads ad news w) (h1 : ∀ u ∈ news, u.oneCell' = true)
    (h63 : n + m ≤ maxLen) (hbytes : (n + m) * bytes ≤ 140737488355328) (hbase : base ≤ w.heap.size)
    (h : ∀ v' w', w'.ownsRow base e 1 v' (n + m) (xs ++ news) → w.grownBy w' v.ownBlock → (v'.ownBlock = v.ownBlock ∨ v'.ownBlock = some w.heap.size) → K (a.put o.dst v') w') : o.wp P a w K Q := by
  obtain ⟨v', w', hr, h2, h3, h4⟩ := run_append_src (P := P) w t o.type base e i z bytes ht hi hz hsize hby hzs v n xs hown ad m c news hl hr h1 h63 hbytes hbase
  unfold Oper.wp execOp
  simp only [ho, resolve, invoke, builtin, Sem.run_bind, Sem.run_pure, Result.andThen_ok, List.map_toArray, List.map_cons, List.map_nil, hs, hx, hr]
  exact h v' w' h2 h3 h4

theorem wpList_append_src {P : Program} (w : World) {ops : Array Oper} {rest : List Oper} {o : Oper} {a : Act} {Q : Exit → Act → World → Prop} (hgd : o.guard = none) (s x : Operand) (t : TypeId)
    (ho : o.op = .call { callee := .builtin .append, args := #[s, x], argTypes := #[t, t] })
    (base : Nat) (e : TypeId) (i : TypeInfo) (z : Value) (bytes : Nat) (ht : P.underlying t = some (.slice e)) (hi : P.info? e = some i) (hz : i.zero = some z)
    (hsize : i.size = 1) (hby : i.bytes = bytes) (hzs : z.cells.size = 1) (v : Value) (n : Nat) (xs : List Value) (hs : a.eval s = v) (hown : w.ownsRow base e 1 v n xs)
    (ad : Option Addr) (m c : Nat) (news : List Value) (hx : a.eval x = .slice ad m c) (hl : news.length = m) (hr : Sep.Reads ad news w) (h1 : ∀ u ∈ news, u.oneCell' = true)
    (h63 : n + m ≤ maxLen) (hbytes : (n + m) * bytes ≤ 140737488355328) (hbase : base ≤ w.heap.size)
    (h : ∀ v' w', w'.ownsRow base e 1 v' (n + m) (xs ++ news) → w.grownBy w' v.ownBlock → (v'.ownBlock = v.ownBlock ∨ v'.ownBlock = some w.heap.size) → wpList P ops Q rest (a.put o.dst v') w') : wpList P ops Q (o :: rest) a w :=
  wpList_plain hgd fun _ hK => wp_append_src w s x t ho base e i z bytes ht hi hz hsize hby hzs v n xs hs hown ad m c news hx hl hr h1 h63 hbytes hbase fun v' w' h2 h3 h4 => hK _ _ (h v' w' h2 h3 h4)

theorem step_append_src {P : Program} (w : World) {ops : Array Oper} {o : Oper} {a : Act} {K : Act → World → Prop} {Q : Exit → Act → World → Prop} {E : Prop} (hgd : o.guard = none) (s x : Operand) (t : TypeId)
    (ho : o.op = .call { callee := .builtin .append, args := #[s, x], argTypes := #[t, t] })
    (base : Nat) (e : TypeId) (i : TypeInfo) (z : Value) (bytes : Nat) (ht : P.underlying t = some (.slice e)) (hi : P.info? e = some i) (hz : i.zero = some z)
    (hsize : i.size = 1) (hby : i.bytes = bytes) (hzs : z.cells.size = 1) (v : Value) (n : Nat) (xs : List Value) (hs : a.eval s = v) (hown : w.ownsRow base e 1 v n xs)
    (ad : Option Addr) (m c : Nat) (news : List Value) (hx : a.eval x = .slice ad m c) (hl : news.length = m) (hr : Sep.Reads ad news w) (h1 : ∀ u ∈ news, u.oneCell' = true)
    (h63 : n + m ≤ maxLen) (hbytes : (n + m) * bytes ≤ 140737488355328) (hbase : base ≤ w.heap.size)
    (h : ∀ v' w', w'.ownsRow base e 1 v' (n + m) (xs ++ news) → w.grownBy w' v.ownBlock → (v'.ownBlock = v.ownBlock ∨ v'.ownBlock = some w.heap.size) → K (a.put o.dst v') w') :
    if Region.wanted o (yielded ops a.tmps) = true then Oper.wp P o a w K Q else E := by
  have hw : Region.wanted o (yielded ops a.tmps) = true := by simp [Region.wanted, hgd]
  rw [if_pos hw]
  exact wp_append_src w s x t ho base e i z bytes ht hi hz hsize hby hzs v n xs hs hown ad m c news hx hl hr h1 h63 hbytes hbase h

end Go.Proofs.Ytjjmoonajijnmaa.Gr

namespace Go.Proofs.Ytjjmoonajijnmaa.Gr
open Go.RowKit Go.Maps
set_option linter.unusedVariables false

theorem info_string : (Try.prog.info? 9).map (fun i => (i.zero, i.size, i.bytes)) = some (some (.string ByteArray.empty), 1, 16) := by kernel_rfl
theorem strings_oneCell (L : List ByteArray) : ∀ u ∈ L.map Value.string, u.oneCell' = true := by
  intro u hu
  obtain ⟨s, _, rfl⟩ := List.mem_map.1 hu
  rfl
theorem build_nos (w : World) : (Instr.buildSlice 33 0 #[]).run Try.prog w = .ok (.slice (some ⟨w.heap.size, 0, none⟩) 0 0) (w.alloc (.cells #[] 9)) := by kernel_rfl

/-- A new list of strings comes back; nothing that was there is written. -/
def ListedS (L : List ByteArray) (w : World) (e : Ending) (w' : World) : Prop :=
  ∃ a c, e = .returned (.slice a L.length c) ∧ Sep.Reads a (L.map .string) w' ∧ L.length ≤ c ∧ Below w.heap.size w w'

theorem row_cap {w : World} {base n c : Nat} {e : TypeId} {a : Option Addr} {xs : List Value} (h : w.ownsRow base e 1 (.slice a n c) n xs) : n ≤ c := by
  rcases h.2 with ⟨h1, h2⟩ | ⟨g, cap, cur, h1, _, _, h3, _⟩
  · omega
  · simp only [Value.slice.injEq] at h1
    omega

theorem place_le (L : List ByteArray) (s : ByteArray) : -1 ≤ It.place L s ∧ It.place L s ≤ L.length := by
  cases h : It.isIn L s with
  | true => rw [It.place_in h]; have := It.num_le (L := L) (s := s); omega
  | false => rw [It.place_out h]; omega

end Go.Proofs.Ytjjmoonajijnmaa.Gr

namespace Go.Proofs.Ytjjmoonajijnmaa.Gr
open Go.RowKit Go.Maps
set_option linter.unusedVariables false

theorem law : Keyed Try.prog 9 := string_keyed Try.underlying9
theorem key_of {s : ByteArray} (h : s.size ≤ maxLen) : keyOf Try.prog 9 (.string s) = some (.string s.data.toList) := WideMaps.keyOf_string_mk Try.underlying9 h
theorem key_lit {s : ByteArray} (h : s.size ≤ maxLen) : WideAt.IsKeyLit (.string s.data.toList) := law.key (key_of h)
noncomputable abbrev ReadI : Value → Option (DataW Unit × List MemPlace) := plainElem Try.prog 3

/-- The map's keys are the names of a list; how many it has. -/
def Keys (L : List ByteArray) (D : DataW Unit) : Prop :=
  (∀ s : ByteArray, Maps.has D (.string s.data.toList) = It.isIn L s) ∧ Maps.size D ≤ L.length ∧ (Maps.size D = L.length ↔ L.Nodup)

theorem keys_nil : Keys [] (.map []) := ⟨fun s => rfl, by simp [Maps.size], by simp [Maps.size]⟩
theorem keys_put {L : List ByteArray} {D : DataW Unit} {s : ByteArray} (hT : Tidy D) (hM : IsMap D) (hk : WideAt.IsKeyLit (.string s.data.toList)) (h : Keys L D) (d : DataW Unit) : Keys (L ++ [s]) (D.put (.string s.data.toList) d) := by
  obtain ⟨h1, h2, h3⟩ := h
  have hz := size_put (k := .string s.data.toList) hT d
  rw [h1 s] at hz
  refine ⟨fun t => ?_, ?_, ?_⟩
  · by_cases e : s = t
    · subst e
      rw [has_put_same hM hk, It.isIn_snoc]
    · have hne : (Lit.string t.data.toList) ≠ .string s.data.toList := fun h => e (It.data_inj (by injection h with h; exact h.symm))
      rw [has_put_other hne, h1 t, Bool.eq_iff_iff, It.isIn_mem, It.isIn_mem]
      simp [Ne.symm e]
  · rw [hz]
    split <;> simp <;> omega
  · rw [hz]
    cases hi : It.isIn L s with
    | true =>
      have hm := It.isIn_mem.1 hi
      rw [if_pos rfl]
      constructor
      · intro e
        simp at e
        omega
      · intro hN
        rw [List.nodup_append] at hN
        exact absurd rfl (hN.2.2 s hm s (by simp))
    | false =>
      have hm : s ∉ L := fun h => by rw [It.isIn_mem.2 h] at hi; cases hi
      rw [if_neg (by simp)]
      simp only [List.length_append, List.length_cons, List.length_nil, Nat.zero_add, Nat.add_right_cancel_iff]
      rw [h3, List.nodup_append]
      constructor
      · intro hN
        refine ⟨hN, by simp, fun a ha b hb => ?_⟩
        simp only [List.mem_singleton] at hb
        subst hb
        exact fun e => hm (e ▸ ha)
      · exact fun hN => hN.1

theorem name_size {G : Gram} (h : GOk G) {s : Nat} (hs : s < (names G).length) : ((names G)[s]).size ≤ 140737488355328 := by
  have := List.getElem_mem hs
  rcases List.mem_append.1 (show (names G)[s] ∈ G.terms ++ G.nons from this) with h1 | h1
  · exact h.terms _ h1
  · exact h.nons _ h1

set_option maxRecDepth 100000 in
set_option maxHeartbeats 4000000 in
theorem namedTwice_any (h : Sh) (G : Gram) (w : World) (k : GAt h G w) :
    Calls Try.prog 35 #[gv h G] w (Is (.bool (!onceB G)) w) := by
  have T := Lib.hid (fun w1 (b : Below w.heap.size w w1) => top_any h G w1 (k.went b))
  have N := Lib.hid (fun s w1 (b : Below w.heap.size w w1) => name_any h G s w1 (k.went b))
  have X := Lib.hid (Bx.start h G w 36)
  have SZ := Lib.hid (fun s hs => name_size k.ok (s := s) hs)
  have ht : top G ≤ 281474976710656 := by have := k.t2; have := k.n2; unfold top; omega
  have hmm := @run_makeMap Try.prog
  clear k
  unfold gv
  go_enter Try.func35, Try.ntmps35
  go_wp2
  go_loopw [4] (fun i wr => ∃ j : Nat, ∃ D, j ≤ top G ∧ i = .int .i64 ((j : Int) + 1) ∧ Bx w h G wr ∧ wr.ownsMap Try.prog 9 ReadI (w.heap.size + 1) j D ∧ Keys ((names G).take j) D) (fun i _ => (top G + 1) - (intOf i).toNat)
  case atStart => exact ⟨0, .map [], Nat.zero_le _, rfl, X.out.alloc _, by simpa using World.ownsMap_made (w.alloc _) Try.prog 9 ReadI, by simpa using keys_nil⟩
  case round =>
    clear X
    obtain ⟨j, D, hj, rfl, hX, hO, hK⟩ := hrel
    have X := Lib.hid hX
    obtain ⟨x0, x1, x2, x3⟩ := hX.box
    have O := Lib.hid hO
    have KY := Lib.hid hK
    clear hX hO hK
    by_cases hlt : j < top G
    · have hl : j < (names G).length := by rw [names_length]; exact hlt
      have E := Lib.hid (name_in hlt)
      have ST := Lib.hid (List.take_succ_eq_append_getElem hl)
      have hs := SZ.out j hl
      generalize (names G)[j] = x at E ST hs
      have hk := Lib.hid (key_of (s := x) (by unfold maxLen; omega))
      have K2 := Lib.hid (fun d => keys_put (O.out.tidy law) O.out.isMap (key_lit (s := x) (by unfold maxLen; omega)) KY.out d)
      clear hl
      go_wp2_with (first
        | (go_at_call 48; refine (T.out _ X.out.below).mono ?_; rintro e w1 ⟨rfl, hb⟩; have X := Lib.hid (X.out.went hb); have O := Lib.hid (Sep.ownsMap_at O.out (hb.block _ O.out.lt)); obtain ⟨x0, x1, x2, x3⟩ := X.out.box; clear hb)
        | (go_at_call 49; refine (N.out _ _ X.out.below).mono ?_; rw [E.out]; rintro e w2 ⟨rfl, hb⟩; have X := Lib.hid (X.out.went hb); have O := Lib.hid (Sep.ownsMap_at O.out (hb.block _ O.out.lt)); clear hb)
        | (at_mapUpdate; refine wpList_mapUpdate_own _ rfl _ _ _ 59 rfl 9 3 law Try.underlying59 ReadI (w.heap.size + 1) j D rfl O.out (by unfold maxLen; omega) _ _ _ rfl rfl hk.out _ [] (plainElem_int Try.underlying3 (WalkArith.wf_i64 (by omega))) ?_; intro w3 hown1 hg1; have X := Lib.hid (X.out.grown hg1 (fun q hq => by injection hq with hq; omega)); have O := Lib.hid hown1; clear hown1 hg1))
      go_roundw
      case rel => exact ⟨j + 1, _, by omega, by go_num, X.out, O.out, by rw [ST.out]; exact K2.out _⟩
      case measure => simp [intOf]; omega
    · have hE : j = top G := by omega
      subst hE
      have HK := Lib.hid (show Keys (names G) D by have h1 := KY.out; rw [List.take_of_length_le (by rw [names_length]; exact Nat.le_refl _)] at h1; exact h1)
      have hsz := HK.out.2.1
      rw [names_length] at hsz
      go_wp2_with (first
        | (go_at_call 48; refine (T.out _ X.out.below).mono ?_; rintro e w1 ⟨rfl, hb⟩; have X := Lib.hid (X.out.went hb); have O := Lib.hid (Sep.ownsMap_at O.out (hb.block _ O.out.lt)); obtain ⟨x0, x1, x2, x3⟩ := X.out.box; clear hb)
        | (at_len; refine wpList_len_own _ rfl _ 59 rfl 9 3 Try.underlying59 ReadI (w.heap.size + 1) (top G) D rfl O.out ?_))
      go_ret
      refine ⟨bool_of ?_, X.out.below⟩
      have h3 := HK.out.2.2
      rw [names_length] at h3
      unfold onceB
      by_cases hN : (names G).Nodup
      · rw [decide_eq_true hN]
        have := h3.2 hN
        simp
        omega
      · rw [decide_eq_false hN]
        have : ¬ Maps.size D = top G := fun e => hN (h3.1 e)
        simp
        omega

/-! ### The plain answers: once -/

theorem nodup_next {L : List ByteArray} {k : Nat} (hk : k < L.length) (h : (L.take k).Nodup) (hp : It.place (L.take k) L[k] = -1) : (L.take (k + 1)).Nodup := by
  rw [List.take_succ_eq_append_getElem hk, List.nodup_append]
  refine ⟨h, by simp, fun a ha b hb => ?_⟩
  simp only [List.mem_singleton] at hb
  subst hb
  rintro rfl
  rw [It.place_in (It.isIn_mem.2 ha)] at hp
  omega
theorem nodup_fail {L : List ByteArray} {k : Nat} (hk : k < L.length) (hp : ¬ It.place (L.take k) L[k] = -1) : ¬ L.Nodup := by
  intro hN
  cases hi : It.isIn (L.take k) L[k] with
  | false => exact hp (It.place_out hi)
  | true =>
    have hm := It.isIn_mem.1 hi
    obtain ⟨i, hi', e⟩ := List.mem_iff_getElem.1 hm
    simp at hi'
    rw [List.getElem_take] at e
    have := (List.getElem_inj hN (i := i) (j := k) (h₀ := by omega) (h₁ := hk)).1 e
    omega

theorem quiet_flip {P : Program} {f : FuncId} {args : Array Value} {w : World} {v : Value} (h : Calls P f args w fun e w' => e = .returned v ∧ w = w') : Calls P f args w fun e w' => e = .returned v ∧ w' = w :=
  h.mono fun _ _ ⟨h1, h2⟩ => ⟨h1, h2.symm⟩

end Go.Proofs.Ytjjmoonajijnmaa.Gr

namespace Go.Proofs.Ytjjmoonajijnmaa.Gr
open Go.RowKit Go.Maps
set_option linter.unusedVariables false

theorem many_not {G : Gram} (h : manyB G = false) : G.terms.length ≤ 120 ∧ G.nons.length ≤ 120 ∧ G.rules.length ≤ 300 := by
  simp only [manyB, Bool.or_eq_false_iff, decide_eq_false_iff_not] at h
  omega
theorem check_many {G : Gram} (h : manyB G = true) : checkN G = 7 := by simp [checkN, h]
theorem check_form {G : Gram} (h : manyB G = false) (h1 : formB G = false) : checkN G = 10 := by simp [checkN, h, h1]
theorem check_once {G : Gram} (h : manyB G = false) (h1 : formB G = true) (h2 : onceB G = false) : checkN G = 8 := by simp [checkN, h, h1, h2]
theorem check_known {G : Gram} (h : manyB G = false) (h1 : formB G = true) (h2 : onceB G = true) (h3 : knownB G = false) : checkN G = 1 := by simp [checkN, h, h1, h2, h3]
theorem check_unlike {G : Gram} (h : manyB G = false) (h1 : formB G = true) (h2 : onceB G = true) (h3 : knownB G = true) (h4 : unlikeB G = false) : checkN G = 8 := by simp [checkN, h, h1, h2, h3, h4]
theorem check_ruled {G : Gram} (h : manyB G = false) (h1 : formB G = true) (h2 : onceB G = true) (h3 : knownB G = true) (h4 : unlikeB G = true) (h5 : ruledB G = false) : checkN G = 9 := by simp [checkN, h, h1, h2, h3, h4, h5]
theorem check_all {G : Gram} (h : manyB G = false) (h1 : formB G = true) (h2 : onceB G = true) (h3 : knownB G = true) (h4 : unlikeB G = true) (h5 : ruledB G = true) : checkN G = 0 := by simp [checkN, h, h1, h2, h3, h4, h5]

set_option maxHeartbeats 4000000 in
theorem check_any (h : Sh) (G : Gram) (w : World) (k : GAt h G w) :
    Calls Try.prog 24 #[gv h G] w (Is (.int .i64 (checkN G)) w) := by
  have X := Lib.hid (Bx.start h G w 36)
  have M := Lib.hid (fun w1 (b : Below w.heap.size w w1) => many_any h G w1 (k.went b))
  have F := Lib.hid (fun w1 (b : Below w.heap.size w w1) => misnamed_any h G w1 (k.went b))
  have O := Lib.hid (fun w1 (b : Below w.heap.size w w1) => namedTwice_any h G w1 (k.went b))
  have K := Lib.hid (fun w1 (b : Below w.heap.size w w1) => misnumbered_any h G w1 (k.went b))
  have U := Lib.hid (fun w1 (b : Below w.heap.size w w1) => ruledTwice_any h G w1 (k.went b))
  have KG := Lib.hid k
  clear k
  unfold gv
  cases h0 : manyB G with
  | true =>
    have E := Lib.hid (check_many h0)
    rw [h0] at M
    clear h0
    go_enter Try.func24, Try.ntmps24
    go_wp2_with (first
      | (go_at_call 33; refine (M.out _ X.out.below).mono ?_; rintro e w1 ⟨rfl, hb⟩; have X := Lib.hid (X.out.went hb); obtain ⟨x0, x1, x2, x3⟩ := X.out.box; clear hb))
    go_ret
    exact ⟨int_of E.out, X.out.below⟩
  | false =>
    rw [h0] at M
    cases h1 : formB G with
    | false =>
      have E := Lib.hid (check_form h0 h1)
      rw [h1] at F
      clear h0 h1
      go_enter Try.func24, Try.ntmps24
      go_wp2_with (first
        | (go_at_call 33; refine (M.out _ X.out.below).mono ?_; rintro e w1 ⟨rfl, hb⟩; have X := Lib.hid (X.out.went hb); obtain ⟨x0, x1, x2, x3⟩ := X.out.box; clear hb)
        | (go_at_call 34; refine (F.out _ X.out.below).mono ?_; rintro e w1 ⟨rfl, hb⟩; have X := Lib.hid (X.out.went hb); obtain ⟨x0, x1, x2, x3⟩ := X.out.box; clear hb))
      go_ret
      exact ⟨int_of E.out, X.out.below⟩
    | true =>
      rw [h1] at F
      cases h2 : onceB G with
      | false =>
        have E := Lib.hid (check_once h0 h1 h2)
        rw [h2] at O
        clear h0 h1 h2
        go_enter Try.func24, Try.ntmps24
        go_wp2_with (first
          | (go_at_call 33; refine (M.out _ X.out.below).mono ?_; rintro e w1 ⟨rfl, hb⟩; have X := Lib.hid (X.out.went hb); obtain ⟨x0, x1, x2, x3⟩ := X.out.box; clear hb)
          | (go_at_call 34; refine (F.out _ X.out.below).mono ?_; rintro e w1 ⟨rfl, hb⟩; have X := Lib.hid (X.out.went hb); obtain ⟨x0, x1, x2, x3⟩ := X.out.box; clear hb)
          | (go_at_call 35; refine (O.out _ X.out.below).mono ?_; rintro e w1 ⟨rfl, hb⟩; have X := Lib.hid (X.out.went hb); obtain ⟨x0, x1, x2, x3⟩ := X.out.box; clear hb))
        go_ret
        exact ⟨int_of E.out, X.out.below⟩
      | true =>
        rw [h2] at O
        cases h3 : knownB G with
        | false =>
          have E := Lib.hid (check_known h0 h1 h2 h3)
          rw [h3] at K
          clear h0 h1 h2 h3
          go_enter Try.func24, Try.ntmps24
          go_wp2_with (first
            | (go_at_call 33; refine (M.out _ X.out.below).mono ?_; rintro e w1 ⟨rfl, hb⟩; have X := Lib.hid (X.out.went hb); obtain ⟨x0, x1, x2, x3⟩ := X.out.box; clear hb)
            | (go_at_call 34; refine (F.out _ X.out.below).mono ?_; rintro e w1 ⟨rfl, hb⟩; have X := Lib.hid (X.out.went hb); obtain ⟨x0, x1, x2, x3⟩ := X.out.box; clear hb)
            | (go_at_call 35; refine (O.out _ X.out.below).mono ?_; rintro e w1 ⟨rfl, hb⟩; have X := Lib.hid (X.out.went hb); obtain ⟨x0, x1, x2, x3⟩ := X.out.box; clear hb)
            | (go_at_call 36; refine (K.out _ X.out.below).mono ?_; rintro e w1 ⟨rfl, hb⟩; have X := Lib.hid (X.out.went hb); obtain ⟨x0, x1, x2, x3⟩ := X.out.box; clear hb))
          go_ret
          exact ⟨int_of E.out, X.out.below⟩
        | true =>
          rw [h3] at K
          cases h4 : unlikeB G with
          | false =>
            have E := Lib.hid (check_unlike h0 h1 h2 h3 h4)
            rw [h4] at U
            clear h0 h1 h2 h3 h4
            go_enter Try.func24, Try.ntmps24
            go_wp2_with (first
              | (go_at_call 33; refine (M.out _ X.out.below).mono ?_; rintro e w1 ⟨rfl, hb⟩; have X := Lib.hid (X.out.went hb); obtain ⟨x0, x1, x2, x3⟩ := X.out.box; clear hb)
              | (go_at_call 34; refine (F.out _ X.out.below).mono ?_; rintro e w1 ⟨rfl, hb⟩; have X := Lib.hid (X.out.went hb); obtain ⟨x0, x1, x2, x3⟩ := X.out.box; clear hb)
              | (go_at_call 35; refine (O.out _ X.out.below).mono ?_; rintro e w1 ⟨rfl, hb⟩; have X := Lib.hid (X.out.went hb); obtain ⟨x0, x1, x2, x3⟩ := X.out.box; clear hb)
              | (go_at_call 36; refine (K.out _ X.out.below).mono ?_; rintro e w1 ⟨rfl, hb⟩; have X := Lib.hid (X.out.went hb); obtain ⟨x0, x1, x2, x3⟩ := X.out.box; clear hb)
              | (go_at_call 37; refine (U.out _ X.out.below).mono ?_; rintro e w1 ⟨rfl, hb⟩; have X := Lib.hid (X.out.went hb); obtain ⟨x0, x1, x2, x3⟩ := X.out.box; clear hb))
            go_ret
            exact ⟨int_of E.out, X.out.below⟩
          | true =>
            rw [h4] at U
            have hr3 := (many_not h0).2.2
            have R := Lib.hid (fun w1 (b : Below w.heap.size w w1) => unruled_any h G w1 (KG.out.went b) (by omega))
            cases h5 : ruledB G with
            | false =>
              have E := Lib.hid (check_ruled h0 h1 h2 h3 h4 h5)
              rw [h5] at R
              clear h0 h1 h2 h3 h4 h5
              go_enter Try.func24, Try.ntmps24
              go_wp2_with (first
                | (go_at_call 33; refine (M.out _ X.out.below).mono ?_; rintro e w1 ⟨rfl, hb⟩; have X := Lib.hid (X.out.went hb); obtain ⟨x0, x1, x2, x3⟩ := X.out.box; clear hb)
                | (go_at_call 34; refine (F.out _ X.out.below).mono ?_; rintro e w1 ⟨rfl, hb⟩; have X := Lib.hid (X.out.went hb); obtain ⟨x0, x1, x2, x3⟩ := X.out.box; clear hb)
                | (go_at_call 35; refine (O.out _ X.out.below).mono ?_; rintro e w1 ⟨rfl, hb⟩; have X := Lib.hid (X.out.went hb); obtain ⟨x0, x1, x2, x3⟩ := X.out.box; clear hb)
                | (go_at_call 36; refine (K.out _ X.out.below).mono ?_; rintro e w1 ⟨rfl, hb⟩; have X := Lib.hid (X.out.went hb); obtain ⟨x0, x1, x2, x3⟩ := X.out.box; clear hb)
                | (go_at_call 37; refine (U.out _ X.out.below).mono ?_; rintro e w1 ⟨rfl, hb⟩; have X := Lib.hid (X.out.went hb); obtain ⟨x0, x1, x2, x3⟩ := X.out.box; clear hb)
                | (go_at_call 38; refine (R.out _ X.out.below).mono ?_; rintro e w1 ⟨rfl, hb⟩; have X := Lib.hid (X.out.went hb); obtain ⟨x0, x1, x2, x3⟩ := X.out.box; clear hb))
              go_ret
              exact ⟨int_of E.out, X.out.below⟩
            | true =>
              rw [h5] at R
              have E := Lib.hid (check_all h0 h1 h2 h3 h4 h5)
              clear h0 h1 h2 h3 h4 h5
              go_enter Try.func24, Try.ntmps24
              go_wp2_with (first
                | (go_at_call 33; refine (M.out _ X.out.below).mono ?_; rintro e w1 ⟨rfl, hb⟩; have X := Lib.hid (X.out.went hb); obtain ⟨x0, x1, x2, x3⟩ := X.out.box; clear hb)
                | (go_at_call 34; refine (F.out _ X.out.below).mono ?_; rintro e w1 ⟨rfl, hb⟩; have X := Lib.hid (X.out.went hb); obtain ⟨x0, x1, x2, x3⟩ := X.out.box; clear hb)
                | (go_at_call 35; refine (O.out _ X.out.below).mono ?_; rintro e w1 ⟨rfl, hb⟩; have X := Lib.hid (X.out.went hb); obtain ⟨x0, x1, x2, x3⟩ := X.out.box; clear hb)
                | (go_at_call 36; refine (K.out _ X.out.below).mono ?_; rintro e w1 ⟨rfl, hb⟩; have X := Lib.hid (X.out.went hb); obtain ⟨x0, x1, x2, x3⟩ := X.out.box; clear hb)
                | (go_at_call 37; refine (U.out _ X.out.below).mono ?_; rintro e w1 ⟨rfl, hb⟩; have X := Lib.hid (X.out.went hb); obtain ⟨x0, x1, x2, x3⟩ := X.out.box; clear hb)
                | (go_at_call 38; refine (R.out _ X.out.below).mono ?_; rintro e w1 ⟨rfl, hb⟩; have X := Lib.hid (X.out.went hb); obtain ⟨x0, x1, x2, x3⟩ := X.out.box; clear hb))
              go_ret
              exact ⟨int_of E.out, X.out.below⟩

theorem once_eq (G : Gram) : onceB G = decide (names G).Nodup := rfl

end Go.Proofs.Ytjjmoonajijnmaa.Gr
