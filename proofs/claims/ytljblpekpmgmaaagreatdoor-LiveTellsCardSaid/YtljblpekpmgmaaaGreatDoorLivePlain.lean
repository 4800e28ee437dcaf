/-
  Plain facts on what is of use in a grammar: what is productive, what is reached, what is left when the rest goes; what is left may be, all of it is of use, and it stays as it is. No program in it.
-/
import Derived.Test.YtljblpekpmgmaaaGreatDoorGramPlain
namespace Go.Proofs.YtljblpekpmgmaaaGreatDoor.Lv
open Go.Proofs.YtljblpekpmgmaaaGreatDoor.Gr (Gram nonB termB top names nameS checkN)
set_option linter.unusedVariables false

inductive Prod (G : Gram) : Int → Prop
  | mk (r : Int × List Int) (hr : r ∈ G.rules) (h : ∀ x ∈ r.2, nonB G x = true → Prod G x) : Prod G r.1
inductive Rch (G : Gram) : Int → Prop
  | start : Rch G G.start
  | step (r : Int × List Int) (hr : r ∈ G.rules) (h : Rch G r.1) (x : Int) (hx : x ∈ r.2) : Rch G x

theorem prod_closed {G : Gram} {P : Int → Prop} (h : ∀ r ∈ G.rules, (∀ x ∈ r.2, nonB G x = true → P x) → P r.1) {x : Int} (hx : Prod G x) : P x := by
  induction hx with
  | mk r hr _ ih => exact h r hr ih
theorem rch_closed {G : Gram} {P : Int → Prop} (h0 : P G.start) (h : ∀ r ∈ G.rules, P r.1 → ∀ x ∈ r.2, P x) {x : Int} (hx : Rch G x) : P x := by
  induction hx with
  | start => exact h0
  | step r hr _ x hx ih => exact h r hr ih x hx
theorem prod_rule {G : Gram} {x : Int} (h : Prod G x) : ∃ r ∈ G.rules, r.1 = x ∧ ∀ y ∈ r.2, nonB G y = true → Prod G y := by
  cases h with
  | mk r hr h => exact ⟨r, hr, rfl, h⟩
/-- With more rules no less. -/
theorem prod_more {G H : Gram} (ht : ∀ x, nonB H x = nonB G x) (hr : ∀ r ∈ G.rules, r ∈ H.rules) {x : Int} (h : Prod G x) : Prod H x :=
  prod_closed (P := Prod H) (fun r hm ih => .mk r (hr r hm) fun y hy hn => ih y hy (by rw [← ht]; exact hn)) h
theorem rch_more {G H : Gram} (hs : H.start = G.start) (hr : ∀ r ∈ G.rules, r ∈ H.rules) {x : Int} (h : Rch G x) : Rch H x :=
  rch_closed (P := Rch H) (hs ▸ .start) (fun r hm ih y hy => .step r (hr r hm) ih y hy) h

/-! ### Lists of symbols -/

/-- The n numbers behind a. -/
def up (a n : Nat) : List Int := (List.range n).map fun i => ((a + i : Nat) : Int) + 1
theorem up_length (a n : Nat) : (up a n).length = n := by simp [up]
theorem up_get {a n i : Nat} (h : i < (up a n).length) : (up a n)[i] = ((a + i : Nat) : Int) + 1 := by simp [up]
theorem up_add (m n : Nat) : up 0 (m + n) = up 0 m ++ up m n := by
  refine List.ext_getElem (by simp [up]) fun i h1 h2 => ?_
  rw [up_get]
  by_cases h : i < m
  · rw [List.getElem_append_left (by rw [up_length]; exact h), up_get]
  · rw [List.getElem_append_right (by rw [up_length]; omega), up_get, up_length]
    omega
theorem up_snoc (n : Nat) : up 0 (n + 1) = up 0 n ++ [(n : Int) + 1] := by
  rw [up_add]
  simp [up]
theorem mem_up {a n : Nat} {x : Int} : x ∈ up a n ↔ (a : Int) + 1 ≤ x ∧ x ≤ (a : Int) + n := by
  unfold up
  rw [List.mem_map]
  constructor
  · rintro ⟨i, hi, rfl⟩
    have := List.mem_range.1 hi
    omega
  · intro h
    exact ⟨(x - a - 1).toNat, List.mem_range.2 (by omega), by omega⟩
theorem up_rises (a n : Nat) : (up a n).Pairwise (· < ·) := by
  unfold up
  rw [List.pairwise_map]
  exact List.pairwise_lt_range.imp fun h => by omega
theorem nodup_of_rises {l : List Int} (h : l.Pairwise (· < ·)) : l.Nodup := h.imp fun h e => by omega

noncomputable def sel (P : Int → Prop) (l : List Int) : List Int := l.filter fun s => @decide (P s) (Classical.propDecidable _)
theorem mem_sel {P : Int → Prop} {l : List Int} {x : Int} : x ∈ sel P l ↔ x ∈ l ∧ P x := by
  unfold sel
  rw [List.mem_filter, @decide_eq_true_iff _ (Classical.propDecidable _)]
theorem sel_append (P : Int → Prop) (l m : List Int) : sel P (l ++ m) = sel P l ++ sel P m := List.filter_append ..
theorem sel_sub (P : Int → Prop) (l : List Int) : (sel P l).Sublist l := List.filter_sublist
theorem sel_all {P : Int → Prop} {l : List Int} (h : ∀ x ∈ l, P x) : sel P l = l := by
  unfold sel
  rw [List.filter_eq_self]
  intro x hx
  rw [@decide_eq_true_iff _ (Classical.propDecidable _)]
  exact h x hx
theorem sel_congr {P Q : Int → Prop} {l : List Int} (h : ∀ x ∈ l, P x ↔ Q x) : sel P l = sel Q l := by
  unfold sel
  refine List.filter_congr fun x hx => ?_
  rw [Bool.eq_iff_iff, @decide_eq_true_iff _ (Classical.propDecidable _), @decide_eq_true_iff _ (Classical.propDecidable _)]
  exact h x hx

/-! ### What the functions answer -/

noncomputable def prodL (G : Gram) : List Int := if checkN G = 0 then sel (Prod G) (up 0 (top G)) else []
noncomputable def fromL (G : Gram) : List Int := sel (Rch G) (up 0 (top G))
noncomputable def rchL (G : Gram) : List Int := if checkN G = 0 then fromL G else []
/-- Of no use. -/
def Dead (G : Gram) (s : Int) : Prop := ¬ Rch G s ∨ nonB G s = true ∧ ¬ Prod G s
/-- The first number of no use, or 0. -/
noncomputable def deadN (G : Gram) : Int := (sel (Dead G) (up 0 (top G))).headD 0

/-- A rule of productive symbols. -/
def Fine (G : Gram) (r : Int × List Int) : Prop := ∀ x ∈ r.2, nonB G x = true → Prod G x
noncomputable def keepR (G : Gram) : List (Int × List Int) := G.rules.filter fun r => @decide (Fine G r) (Classical.propDecidable _)
noncomputable def keptG (G : Gram) : Gram := { G with rules := keepR G }
theorem mem_keep {G : Gram} {r : Int × List Int} : r ∈ keepR G ↔ r ∈ G.rules ∧ Fine G r := by
  unfold keepR
  rw [List.mem_filter, @decide_eq_true_iff _ (Classical.propDecidable _)]

/-- A symbol's place in a list, from 1 on; 0 where it is not. -/
def pos : List Int → Int → Int
  | [], _ => 0
  | a :: r, s => if a = s then 1 else if pos r s = 0 then 0 else pos r s + 1
theorem pos_out {l : List Int} {s : Int} (h : s ∉ l) : pos l s = 0 := by
  induction l with
  | nil => rfl
  | cons a r ih =>
    rw [List.mem_cons, not_or] at h
    unfold pos
    rw [if_neg (fun e => h.1 e.symm), if_pos (ih h.2)]
theorem pos_some {l : List Int} {s : Int} (h : s ∈ l) : 1 ≤ pos l s ∧ l[(pos l s - 1).toNat]? = some s := by
  induction l with
  | nil => cases h
  | cons a r ih =>
    by_cases e : a = s
    · have e1 : pos (a :: r) s = 1 := by unfold pos; rw [if_pos e]
      rw [e1]
      exact ⟨by omega, by simpa using e⟩
    · have hr : s ∈ r := by
        rcases List.mem_cons.1 h with h | h
        · exact absurd h.symm e
        · exact h
      obtain ⟨h1, h2⟩ := ih hr
      have e1 : pos (a :: r) s = pos r s + 1 := by
        show (if a = s then 1 else if pos r s = 0 then 0 else pos r s + 1) = _
        rw [if_neg e, if_neg (by omega)]
      have e2 : (pos r s + 1 - 1).toNat = (pos r s - 1).toNat + 1 := by omega
      rw [e1, e2, List.getElem?_cons_succ]
      exact ⟨by omega, h2⟩
theorem pos_in {l : List Int} {s : Int} (h : s ∈ l) : 1 ≤ pos l s ∧ ∃ hi : (pos l s - 1).toNat < l.length, l[(pos l s - 1).toNat] = s := by
  obtain ⟨h1, h2⟩ := pos_some h
  exact ⟨h1, List.getElem?_eq_some_iff.1 h2⟩
theorem pos_get {l : List Int} (hn : l.Nodup) {i : Nat} (h : i < l.length) : pos l l[i] = (i : Int) + 1 := by
  obtain ⟨h1, hi, h2⟩ := pos_in (List.getElem_mem h)
  have := (List.getElem_inj hn).1 h2
  omega
theorem pos_inj {l : List Int} {x y : Int} (hx : x ∈ l) (hy : y ∈ l) (h : pos l x = pos l y) : x = y := by
  obtain ⟨_, hi, h2⟩ := pos_in hx
  obtain ⟨_, hj, h3⟩ := pos_in hy
  rw [← h2, ← h3]
  simp only [h]
theorem pos_le {l : List Int} {x : Int} (hx : x ∈ l) : 1 ≤ pos l x ∧ pos l x ≤ (l.length : Int) := by
  obtain ⟨h1, hi, h2⟩ := pos_in hx
  omega

/-- A grammar with some symbols alone. -/
def onlyG (H : Gram) (l : List Int) : Gram where
  terms := (l.filter fun s => termB H s).map (nameS H)
  nons := (l.filter fun s => !termB H s).map (nameS H)
  start := pos l H.start
  rules := (H.rules.filter fun r => decide (r.1 ∈ l)).map fun r => (pos l r.1, r.2.map (pos l))
noncomputable def trimG (G : Gram) : Gram := onlyG (keptG G) (fromL (keptG G))
def TrimOk (G : Gram) : Prop := checkN G = 0 ∧ Prod G G.start

end Go.Proofs.YtljblpekpmgmaaaGreatDoor.Lv
