/-
  What the functions answer, as a walk meets it: who is in the lists, and which symbol is the first of no use. No program in it.
-/
import Derived.Test.YtljblpekpmgmaaaGreatDoorLiveRounds
namespace Go.Proofs.YtljblpekpmgmaaaGreatDoor.Lv
open Go.Proofs.YtljblpekpmgmaaaGreatDoor.Gr (Gram nonB termB top names nameS checkN)
set_option linter.unusedVariables false

section
variable {G : Gram}
theorem mem_prodL (h : checkN G = 0) {x : Int} : x ∈ prodL G ↔ Prod G x := by
  obtain ⟨_, _, _, a4, _, _⟩ := Gr.check_ok h
  unfold prodL
  rw [if_pos h, mem_sel, mem_up]
  refine ⟨fun hh => hh.2, fun hx => ?_⟩
  have := non_in (prod_non a4 hx)
  exact ⟨by omega, hx⟩
theorem mem_rchL (h : checkN G = 0) {x : Int} : x ∈ rchL G ↔ Rch G x := by
  obtain ⟨_, _, _, a4, _, _⟩ := Gr.check_ok h
  unfold rchL fromL
  rw [if_pos h, mem_sel, mem_up]
  refine ⟨fun hh => hh.2, fun hx => ?_⟩
  have := rch_in a4 hx
  exact ⟨by omega, hx⟩
theorem prodL_len : (prodL G).length ≤ top G := by
  unfold prodL
  split
  · have := (sel_sub (Prod G) (up 0 (top G))).length_le
    rwa [up_length] at this
  · exact Nat.zero_le _
theorem fromL_len : (fromL G).length ≤ top G := by
  have := (sel_sub (Rch G) (up 0 (top G))).length_le
  rwa [up_length] at this
theorem rchL_len : (rchL G).length ≤ top G := by
  unfold rchL
  split
  · exact fromL_len
  · exact Nat.zero_le _

/-- Of no use, by the two lists. -/
theorem dead_iff (h : checkN G = 0) {s : Int} : Dead G s ↔ s ∉ rchL G ∨ nonB G s = true ∧ s ∉ prodL G := by
  unfold Dead
  rw [mem_rchL h, mem_prodL h]

theorem sel_head {P : Int → Prop} {n s : Nat} (hs : s < n) (hb : ∀ t : Nat, t < s → ¬ P ((t : Int) + 1)) (hp : P ((s : Int) + 1)) : (sel P (up 0 n)).headD 0 = (s : Int) + 1 := by
  have e : n = s + (1 + (n - s - 1)) := by omega
  have e2 : up 0 n = up 0 s ++ (((s : Int) + 1) :: up (s + 1) (n - s - 1)) := by
    have h1 : up 0 n = up 0 (s + 1) ++ up (s + 1) (n - s - 1) := by
      rw [← up_add]
      congr 1
      omega
    rw [h1, up_snoc, List.append_assoc]
    rfl
  rw [e2, sel_append]
  have e3 : sel P (up 0 s) = [] := by
    rw [List.eq_nil_iff_forall_not_mem]
    intro x hx
    obtain ⟨h1, h2⟩ := mem_sel.1 hx
    have h3 := mem_up.1 h1
    refine hb (x - 1).toNat (by omega) ?_
    have e4 : (((x - 1).toNat : Nat) : Int) + 1 = x := by omega
    rw [e4]
    exact h2
  rw [e3, List.nil_append]
  unfold sel
  rw [List.filter_cons, if_pos (by rw [@decide_eq_true_iff _ (Classical.propDecidable _)]; exact hp)]
  rfl
/-- The first of no use. -/
theorem dead_at {s : Nat} (hs : s < top G) (hb : ∀ t : Nat, t < s → ¬ Dead G ((t : Int) + 1)) (hd : Dead G ((s : Int) + 1)) : deadN G = (s : Int) + 1 := sel_head hs hb hd
theorem dead_not (hb : ∀ t : Nat, t < top G → ¬ Dead G ((t : Int) + 1)) : deadN G = 0 := by
  unfold deadN
  have e : sel (Dead G) (up 0 (top G)) = [] := by
    rw [List.eq_nil_iff_forall_not_mem]
    intro x hx
    obtain ⟨h1, h2⟩ := mem_sel.1 hx
    have h3 := mem_up.1 h1
    refine hb (x - 1).toNat (by omega) ?_
    have e4 : (((x - 1).toNat : Nat) : Int) + 1 = x := by omega
    rw [e4]
    exact h2
  rw [e]
  rfl

/-- What Check answers: an error's number and a symbol. -/
noncomputable def checkL (G : Gram) : Int × Int := if checkN G = 0 then (if deadN G = 0 then (0, 0) else (11, deadN G)) else (checkN G, 0)
theorem checkL_ok : (checkL G).1 = 0 ↔ checkN G = 0 ∧ Useful G := by
  unfold checkL
  split
  · split
    · rw [← dead_none]
      exact ⟨fun _ => ⟨by assumption, by assumption⟩, fun _ => rfl⟩
    · rw [← dead_none]
      exact ⟨fun h => absurd (show (11 : Int) = 0 from h) (by decide), fun h => absurd h.2 (by assumption)⟩
  · exact ⟨fun h => absurd h (by assumption), fun h => absurd h.1 (by assumption)⟩

/-- What stands of the new names behind the first k symbols. -/
def termsTo (H : Gram) (l : List Int) (k : Nat) : List ByteArray := ((l.take k).filter fun s => termB H s).map (nameS H)
def nonsTo (H : Gram) (l : List Int) (k : Nat) : List ByteArray := ((l.take k).filter fun s => !termB H s).map (nameS H)
theorem to_zero (H : Gram) (l : List Int) : termsTo H l 0 = [] ∧ nonsTo H l 0 = [] := ⟨rfl, rfl⟩
theorem to_term {H : Gram} {l : List Int} {k : Nat} (hk : k < l.length) (h : termB H l[k] = true) : termsTo H l (k + 1) = termsTo H l k ++ [nameS H l[k]] ∧ nonsTo H l (k + 1) = nonsTo H l k := by
  unfold termsTo nonsTo
  rw [List.take_succ_eq_append_getElem hk, List.filter_append, List.filter_append]
  simp [h]
theorem to_non {H : Gram} {l : List Int} {k : Nat} (hk : k < l.length) (h : termB H l[k] = false) : termsTo H l (k + 1) = termsTo H l k ∧ nonsTo H l (k + 1) = nonsTo H l k ++ [nameS H l[k]] := by
  unfold termsTo nonsTo
  rw [List.take_succ_eq_append_getElem hk, List.filter_append, List.filter_append]
  simp [h]
theorem to_end (H : Gram) (l : List Int) : termsTo H l l.length = (onlyG H l).terms ∧ nonsTo H l l.length = (onlyG H l).nons := by
  unfold termsTo nonsTo onlyG
  rw [List.take_length]
  exact ⟨rfl, rfl⟩

/-- The new rules behind the first k rules. -/
def rulesTo (H : Gram) (l : List Int) (k : Nat) : List (Int × List Int) := ((H.rules.take k).filter fun r => decide (r.1 ∈ l)).map fun r => (pos l r.1, r.2.map (pos l))
theorem rulesTo_zero (H : Gram) (l : List Int) : rulesTo H l 0 = [] := rfl
theorem rulesTo_hit {H : Gram} {l : List Int} {k : Nat} (hk : k < H.rules.length) (h : H.rules[k].1 ∈ l) : rulesTo H l (k + 1) = rulesTo H l k ++ [(pos l H.rules[k].1, H.rules[k].2.map (pos l))] := by
  unfold rulesTo
  rw [List.take_succ_eq_append_getElem hk, List.filter_append]
  simp [h]
theorem rulesTo_miss {H : Gram} {l : List Int} {k : Nat} (hk : k < H.rules.length) (h : H.rules[k].1 ∉ l) : rulesTo H l (k + 1) = rulesTo H l k := by
  unfold rulesTo
  rw [List.take_succ_eq_append_getElem hk, List.filter_append]
  simp [h]
theorem rulesTo_end (H : Gram) (l : List Int) : rulesTo H l H.rules.length = (onlyG H l).rules := by
  unfold rulesTo onlyG
  rw [List.take_length]
/-- The rules kept behind the first k. -/
noncomputable def keepTo (G : Gram) (k : Nat) : List (Int × List Int) := (G.rules.take k).filter fun r => @decide (Fine G r) (Classical.propDecidable _)
theorem keepTo_zero (G : Gram) : keepTo G 0 = [] := rfl
theorem keepTo_hit {k : Nat} (hk : k < G.rules.length) (h : Fine G G.rules[k]) : keepTo G (k + 1) = keepTo G k ++ [G.rules[k]] := by
  unfold keepTo
  rw [List.take_succ_eq_append_getElem hk, List.filter_append, List.filter_cons, if_pos (by rw [@decide_eq_true_iff _ (Classical.propDecidable _)]; exact h)]
  rfl
theorem keepTo_miss {k : Nat} (hk : k < G.rules.length) (h : ¬ Fine G G.rules[k]) : keepTo G (k + 1) = keepTo G k := by
  unfold keepTo
  rw [List.take_succ_eq_append_getElem hk, List.filter_append, List.filter_cons, if_neg (by rw [@decide_eq_true_iff _ (Classical.propDecidable _)]; exact h), List.filter_nil, List.append_nil]
theorem keepTo_end (G : Gram) : keepTo G G.rules.length = keepR G := by
  unfold keepTo keepR
  rw [List.take_length]
/-- A rule is kept where all its nonterminals are in the list of the productive ones; its left side is then. -/
theorem fine_by (h : checkN G = 0) {r : Int × List Int} : fineB G r (prodL G) = true ↔ Fine G r := by
  rw [fineB_iff]
  exact ⟨fun hh x hx hn => (mem_prodL h).1 (hh x hx hn), fun hh x hx hn => (mem_prodL h).2 (hh x hx hn)⟩
theorem fine_left (h : checkN G = 0) {r : Int × List Int} (hr : r ∈ G.rules) (hf : Fine G r) : r.1 ∈ prodL G := (mem_prodL h).2 (.mk r hr hf)
end

end Go.Proofs.YtljblpekpmgmaaaGreatDoor.Lv
