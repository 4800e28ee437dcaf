/-
  What is trimmed may be, all of it is of use, and it stays as it is; a grammar of which all is of use is trimmed to itself. No program in it.
-/
import Derived.Test.YtljblpekpmgmaaaGreatDoorLivePlain
namespace Go.Proofs.YtljblpekpmgmaaaGreatDoor.Lv
open Go.Proofs.YtljblpekpmgmaaaGreatDoor.Gr (Gram nonB termB top names nameS checkN)
set_option linter.unusedVariables false

theorem check_zero {G : Gram} (h1 : Gr.manyB G = false) (h2 : Gr.formB G = true) (h3 : Gr.onceB G = true) (h4 : Gr.knownB G = true) (h5 : Gr.unlikeB G = true) (h6 : Gr.ruledB G = true) : checkN G = 0 := by
  unfold checkN
  simp [h1, h2, h3, h4, h5, h6]

theorem terms_up (H : Gram) : (up 0 H.terms.length).map (nameS H) = H.terms := by
  refine List.ext_getElem (by simp [up]) fun i h1 h2 => ?_
  rw [List.getElem_map, up_get]
  have e : ((0 + i : Nat) : Int) + 1 = (i : Int) + 1 := by omega
  rw [e, Gr.name_term h2]
theorem nons_up (H : Gram) : (up H.terms.length H.nons.length).map (nameS H) = H.nons := by
  refine List.ext_getElem (by simp [up]) fun i h1 h2 => ?_
  rw [List.getElem_map, up_get, Gr.name_non h2]

/-- A rising list of symbols: terminals, then nonterminals. -/
structure Parts (H : Gram) (l lt ln : List Int) : Prop where
  e : l = lt ++ ln
  st : lt.Sublist (up 0 H.terms.length)
  sn : ln.Sublist (up H.terms.length H.nons.length)
theorem parts_from (H : Gram) : Parts H (fromL H) (sel (Rch H) (up 0 H.terms.length)) (sel (Rch H) (up H.terms.length H.nons.length)) :=
  ⟨by unfold fromL Gr.top; rw [up_add, sel_append], sel_sub .., sel_sub ..⟩

section
variable {H : Gram} {l lt ln : List Int}
theorem Parts.memt (P : Parts H l lt ln) {x : Int} (hx : x ∈ lt) : 1 ≤ x ∧ x ≤ (H.terms.length : Int) := by
  have := mem_up.1 (P.st.subset hx)
  omega
theorem Parts.memn (P : Parts H l lt ln) {x : Int} (hx : x ∈ ln) : (H.terms.length : Int) + 1 ≤ x ∧ x ≤ (H.terms.length : Int) + H.nons.length := mem_up.1 (P.sn.subset hx)
theorem Parts.nodup (P : Parts H l lt ln) : l.Nodup := by
  have h : l.Sublist (up 0 (H.terms.length + H.nons.length)) := by
    rw [P.e, up_add]
    exact P.st.append P.sn
  exact nodup_of_rises ((up_rises _ _).sublist h)
theorem Parts.ft (P : Parts H l lt ln) : (l.filter fun s => termB H s) = lt := by
  rw [P.e, List.filter_append, List.filter_eq_self.2 (fun x hx => Gr.termB_iff.2 (P.memt hx)), List.filter_eq_nil_iff.2 (fun x hx hh => by
    have := Gr.termB_iff.1 hh
    have := P.memn hx
    omega), List.append_nil]
theorem Parts.fn (P : Parts H l lt ln) : (l.filter fun s => !termB H s) = ln := by
  rw [P.e, List.filter_append, List.filter_eq_nil_iff.2 (fun x hx hh => by
    have := Gr.termB_iff.2 (P.memt hx)
    rw [this] at hh
    exact absurd hh (by decide)), List.filter_eq_self.2 (fun x hx => by
    have h1 := P.memn hx
    cases h : termB H x with
    | false => rfl
    | true =>
      have := Gr.termB_iff.1 h
      omega), List.nil_append]
theorem Parts.terms (P : Parts H l lt ln) : (onlyG H l).terms = lt.map (nameS H) := by unfold onlyG; rw [P.ft]
theorem Parts.nons (P : Parts H l lt ln) : (onlyG H l).nons = ln.map (nameS H) := by unfold onlyG; rw [P.fn]
theorem Parts.terms_sub (P : Parts H l lt ln) : (onlyG H l).terms.Sublist H.terms := by
  rw [P.terms]
  have := P.st.map (nameS H)
  rwa [terms_up] at this
theorem Parts.nons_sub (P : Parts H l lt ln) : (onlyG H l).nons.Sublist H.nons := by
  rw [P.nons]
  have := P.sn.map (nameS H)
  rwa [nons_up] at this
theorem Parts.tlen (P : Parts H l lt ln) : (onlyG H l).terms.length = lt.length := by rw [P.terms, List.length_map]
theorem Parts.nlen (P : Parts H l lt ln) : (onlyG H l).nons.length = ln.length := by rw [P.nons, List.length_map]
theorem Parts.len (P : Parts H l lt ln) : lt.length + ln.length = l.length := by rw [P.e, List.length_append]
theorem Parts.top (P : Parts H l lt ln) : Gr.top (onlyG H l) = l.length := by
  unfold Gr.top
  rw [P.tlen, P.nlen, P.len]
/-- A symbol's new number is a terminal's where the old one is. -/
theorem Parts.pos_le (P : Parts H l lt ln) {x : Int} (hx : x ∈ l) : pos l x ≤ (lt.length : Int) ↔ x ≤ (H.terms.length : Int) := by
  obtain ⟨h1, h2⟩ := pos_some hx
  constructor
  · intro h
    rw [P.e, List.getElem?_append_left (by rw [← P.e]; omega)] at h2
    rw [← P.e] at h2
    have := P.memt (List.mem_of_getElem? h2)
    omega
  · intro h
    refine Int.not_lt.1 fun hlt => ?_
    rw [P.e, List.getElem?_append_right (by rw [← P.e]; omega)] at h2
    rw [← P.e] at h2
    have := P.memn (List.mem_of_getElem? h2)
    omega
theorem Parts.non (P : Parts H l lt ln) {x : Int} (hx : x ∈ l) : nonB (onlyG H l) (pos l x) = nonB H x := by
  have h1 := P.pos_le hx
  have h2 := Lv.pos_le hx
  have h3 := P.len
  have h4 : x ≤ (H.terms.length : Int) + H.nons.length := by
    rw [P.e] at hx
    rcases List.mem_append.1 hx with h | h
    · have := P.memt h
      omega
    · have := P.memn h
      omega
  rw [Bool.eq_iff_iff, Gr.nonB_iff, Gr.nonB_iff, P.tlen, P.nlen]
  omega
theorem Parts.at (P : Parts H l lt ln) {i : Nat} (h : i < ln.length) : ∃ x, x ∈ l ∧ x ∈ ln ∧ pos l x = (lt.length : Int) + 1 + i := by
  have hl := P.len
  have hi : lt.length + i < l.length := by omega
  have e : l[lt.length + i] = ln[i] := by
    have h2 : l[lt.length + i]? = some ln[i] := by
      rw [P.e, List.getElem?_append_right (by omega)]
      have e2 : lt.length + i - lt.length = i := by omega
      rw [e2, List.getElem?_eq_getElem h]
    exact (List.getElem?_eq_some_iff.1 h2).2
  refine ⟨l[lt.length + i], List.getElem_mem hi, by rw [e]; exact List.getElem_mem h, ?_⟩
  rw [pos_get P.nodup hi]
  omega
end

/-! ### A valid grammar -/

section
variable {G : Gram}
theorem rule_known (h : Gr.knownB G = true) {r : Int × List Int} (hr : r ∈ G.rules) : nonB G r.1 = true ∧ ∀ x ∈ r.2, 1 ≤ x ∧ x ≤ (top G : Int) := by
  unfold Gr.knownB at h
  rw [Bool.and_eq_true, List.all_eq_true] at h
  have h2 := h.2 r hr
  rw [Bool.and_eq_true, List.all_eq_true] at h2
  exact ⟨h2.1, fun x hx => by simpa using h2.2 x hx⟩
theorem start_known (h : Gr.knownB G = true) : nonB G G.start = true := by
  unfold Gr.knownB at h
  rw [Bool.and_eq_true] at h
  exact h.1
theorem prod_non (h : Gr.knownB G = true) {x : Int} (hx : Prod G x) : nonB G x = true := by
  obtain ⟨r, hr, rfl, _⟩ := prod_rule hx
  exact (rule_known h hr).1
theorem non_in {x : Int} (h : nonB G x = true) : 1 ≤ x ∧ x ≤ (top G : Int) := by
  rw [Gr.nonB_iff] at h
  unfold Gr.top
  omega
theorem rch_in (h : Gr.knownB G = true) {x : Int} (hx : Rch G x) : 1 ≤ x ∧ x ≤ (top G : Int) :=
  rch_closed (P := fun x => 1 ≤ x ∧ x ≤ (top G : Int)) (non_in (start_known h)) (fun r hr _ x hx => (rule_known h hr).2 x hx) hx
theorem kept_known (h : Gr.knownB G = true) : Gr.knownB (keptG G) = true := by
  unfold Gr.knownB at h ⊢
  rw [Bool.and_eq_true, List.all_eq_true] at h ⊢
  exact ⟨h.1, fun r hr => h.2 r (mem_keep.1 hr).1⟩
theorem mem_from (h : Gr.knownB G = true) {x : Int} : x ∈ fromL (keptG G) ↔ Rch (keptG G) x := by
  unfold fromL
  rw [mem_sel, mem_up]
  constructor
  · exact fun hh => hh.2
  · intro hx
    have := rch_in (kept_known h) hx
    exact ⟨by omega, hx⟩
/-- What is reached by what remains is productive. -/
theorem rch_prod (hp : Prod G G.start) {x : Int} (hx : Rch (keptG G) x) : nonB G x = true → Prod G x :=
  rch_closed (G := keptG G) (P := fun x => nonB G x = true → Prod G x) (fun _ => hp) (fun r hr _ x hx hn => (mem_keep.1 hr).2 x hx hn) hx

theorem trim_rules : (trimG G).rules = ((keepR G).filter fun r => decide (r.1 ∈ fromL (keptG G))).map fun r => (pos (fromL (keptG G)) r.1, r.2.map (pos (fromL (keptG G)))) := rfl
theorem mem_trim {q : Int × List Int} : q ∈ (trimG G).rules ↔ ∃ r, r ∈ keepR G ∧ r.1 ∈ fromL (keptG G) ∧ q = (pos (fromL (keptG G)) r.1, r.2.map (pos (fromL (keptG G)))) := by
  rw [trim_rules, List.mem_map]
  constructor
  · rintro ⟨r, hr, rfl⟩
    rw [List.mem_filter, decide_eq_true_iff] at hr
    exact ⟨r, hr.1, hr.2, rfl⟩
  · rintro ⟨r, h1, h2, rfl⟩
    exact ⟨r, by rw [List.mem_filter, decide_eq_true_iff]; exact ⟨h1, h2⟩, rfl⟩

theorem map_pos_inj {l a b : List Int} (ha : ∀ x ∈ a, x ∈ l) (hb : ∀ x ∈ b, x ∈ l) (h : a.map (pos l) = b.map (pos l)) : a = b := by
  induction a generalizing b with
  | nil =>
    cases b with
    | nil => rfl
    | cons y t => simp at h
  | cons x r ih =>
    cases b with
    | nil => simp at h
    | cons y t =>
      rw [List.map_cons, List.map_cons, List.cons.injEq] at h
      rw [pos_inj (ha x (List.mem_cons_self ..)) (hb y (List.mem_cons_self ..)) h.1, ih (fun z hz => ha z (List.mem_cons_of_mem _ hz)) (fun z hz => hb z (List.mem_cons_of_mem _ hz)) h.2]

/-- What is trimmed may be. -/
theorem trim_check (h : checkN G = 0) (hp : Prod G G.start) : checkN (trimG G) = 0 := by
  obtain ⟨a1, a2, a3, a4, a5, a6⟩ := Gr.check_ok h
  have P := parts_from (keptG G)
  have hin : ∀ r ∈ keepR G, r.1 ∈ fromL (keptG G) → ∀ x ∈ r.2, x ∈ fromL (keptG G) := fun r hr hl x hx => (mem_from a4).2 (.step r hr ((mem_from a4).1 hl) x hx)
  have hts : (trimG G).terms.Sublist G.terms := P.terms_sub
  have hns : (trimG G).nons.Sublist G.nons := P.nons_sub
  refine check_zero ?_ ?_ ?_ ?_ ?_ ?_
  · unfold Gr.manyB at a1 ⊢
    simp only [Bool.or_eq_false_iff, decide_eq_false_iff_not, List.any_eq_false, decide_eq_true_iff] at a1 ⊢
    have h1 := hts.length_le
    have h2 := hns.length_le
    have h3 : (trimG G).rules.length ≤ G.rules.length := by
      rw [trim_rules, List.length_map]
      exact Nat.le_trans (List.length_filter_le ..) (List.length_filter_le ..)
    refine ⟨⟨⟨by omega, by omega⟩, by omega⟩, fun q hq => ?_⟩
    obtain ⟨r, hr, _, rfl⟩ := mem_trim.1 hq
    have := a1.2 r (mem_keep.1 hr).1
    simpa using this
  · unfold Gr.formB at a2 ⊢
    rw [Bool.and_eq_true, List.all_eq_true, List.all_eq_true] at a2 ⊢
    exact ⟨fun s hs => a2.1 s (hts.subset hs), fun s hs => a2.2 s (hns.subset hs)⟩
  · unfold Gr.onceB Gr.names at a3 ⊢
    rw [decide_eq_true_iff] at a3 ⊢
    exact a3.sublist (hts.append hns)
  · unfold Gr.knownB
    rw [Bool.and_eq_true, List.all_eq_true]
    refine ⟨?_, fun q hq => ?_⟩
    · exact (P.non ((mem_from a4).2 .start)).trans (show nonB G G.start = true from start_known a4)
    · obtain ⟨r, hr, hl, rfl⟩ := mem_trim.1 hq
      rw [Bool.and_eq_true, List.all_eq_true]
      refine ⟨(P.non hl).trans (rule_known a4 (mem_keep.1 hr).1).1, fun y hy => ?_⟩
      obtain ⟨x, hx, rfl⟩ := List.mem_map.1 hy
      have h1 := pos_le (hin r hr hl x hx)
      have h2 : Gr.top (trimG G) = (fromL (keptG G)).length := P.top
      rw [decide_eq_true_iff, h2]
      exact h1
  · unfold Gr.unlikeB at a5 ⊢
    rw [decide_eq_true_iff] at a5 ⊢
    rw [trim_rules]
    unfold List.Nodup
    rw [List.pairwise_map]
    have hn : ((keepR G).filter fun r => decide (r.1 ∈ fromL (keptG G))).Nodup := (a5.sublist (List.filter_sublist (l := G.rules))).sublist List.filter_sublist
    refine List.Pairwise.imp_of_mem (fun {r q} hr hq hne e => ?_) hn
    rw [List.mem_filter, decide_eq_true_iff] at hr hq
    obtain ⟨r1, r2⟩ := r
    obtain ⟨q1, q2⟩ := q
    rw [Prod.mk.injEq] at e
    refine hne ?_
    have f1 : r1 = q1 := pos_inj hr.2 hq.2 e.1
    have f2 : r2 = q2 := map_pos_inj (hin _ hr.1 hr.2) (hin _ hq.1 hq.2) e.2
    rw [f1, f2]
  · unfold Gr.ruledB
    rw [List.all_eq_true]
    intro i hi
    rw [List.mem_range] at hi
    have hi2 : i < (sel (Rch (keptG G)) (up (keptG G).terms.length (keptG G).nons.length)).length := by rw [← P.nlen]; exact hi
    obtain ⟨x, hx, hxn, e⟩ := P.at hi2
    have hm := P.memn hxn
    have hnon : nonB G x = true := Gr.nonB_iff.2 ⟨by have : (keptG G).terms.length = G.terms.length := rfl; omega, by have h1 : (keptG G).terms.length = G.terms.length := rfl; have h2 : (keptG G).nons.length = G.nons.length := rfl; omega⟩
    obtain ⟨r, hr, e1, hf⟩ := prod_rule (rch_prod hp ((mem_from a4).1 hx) hnon)
    have hq : (pos (fromL (keptG G)) r.1, r.2.map (pos (fromL (keptG G)))) ∈ (trimG G).rules := mem_trim.2 ⟨r, mem_keep.2 ⟨hr, hf⟩, by rw [e1]; exact hx, rfl⟩
    obtain ⟨j, hj, ej⟩ := List.getElem_of_mem hq
    have ht : (trimG G).terms.length = (sel (Rch (keptG G)) (up 0 (keptG G).terms.length)).length := P.tlen
    have hmem : j ∈ Gr.ofN (trimG G) (((trimG G).terms.length : Int) + 1 + i) := Gr.mem_ofN.2 ⟨hj, by rw [Gr.leftOf_get hj, ej, ht, ← e, e1]⟩
    cases ho : Gr.ofN (trimG G) (((trimG G).terms.length : Int) + 1 + i) with
    | nil => rw [ho] at hmem; cases hmem
    | cons a r => rfl

/-- All of it is reached. -/
theorem trim_rch (h : checkN G = 0) {x : Int} (hx : Rch (keptG G) x) : Rch (trimG G) (pos (fromL (keptG G)) x) := by
  obtain ⟨_, _, _, a4, _, _⟩ := Gr.check_ok h
  have key : Rch (keptG G) x ∧ Rch (trimG G) (pos (fromL (keptG G)) x) := by
    refine rch_closed (P := fun x => Rch (keptG G) x ∧ Rch (trimG G) (pos (fromL (keptG G)) x)) ⟨.start, .start⟩ (fun r hr ih x hx => ⟨.step r hr ih.1 x hx, ?_⟩) hx
    exact .step (G := trimG G) _ (mem_trim.2 ⟨r, hr, (mem_from a4).2 ih.1, rfl⟩) ih.2 _ (List.mem_map_of_mem hx)
  exact key.2
/-- All of it is productive. -/
theorem trim_prod (h : checkN G = 0) {x : Int} (hx : Prod G x) : Rch (keptG G) x → Prod (trimG G) (pos (fromL (keptG G)) x) := by
  obtain ⟨_, _, _, a4, _, _⟩ := Gr.check_ok h
  have P := parts_from (keptG G)
  induction hx with
  | mk r hr hf ih =>
    intro hc
    refine .mk (G := trimG G) (pos (fromL (keptG G)) r.1, r.2.map (pos (fromL (keptG G)))) (mem_trim.2 ⟨r, mem_keep.2 ⟨hr, hf⟩, (mem_from a4).2 hc, rfl⟩) fun y hy hn => ?_
    obtain ⟨x, hx, rfl⟩ := List.mem_map.1 hy
    have hxr : Rch (keptG G) x := .step r (mem_keep.2 ⟨hr, hf⟩) hc x hx
    have hn2 : nonB G x = true := by rw [← hn]; exact (P.non ((mem_from a4).2 hxr)).symm
    exact ih x hx hn2 hxr

/-- All is of use. -/
def Useful (G : Gram) : Prop := ∀ s : Int, 1 ≤ s → s ≤ (top G : Int) → Rch G s ∧ (nonB G s = true → Prod G s)

theorem trim_useful (h : checkN G = 0) (hp : Prod G G.start) : Useful (trimG G) := fun s h1 h2 => by
  obtain ⟨_, _, _, a4, _, _⟩ := Gr.check_ok h
  have P := parts_from (keptG G)
  have ht : Gr.top (trimG G) = (fromL (keptG G)).length := P.top
  rw [ht] at h2
  have hi : (s - 1).toNat < (fromL (keptG G)).length := by omega
  have e : pos (fromL (keptG G)) (fromL (keptG G))[(s - 1).toNat] = s := by rw [pos_get P.nodup hi]; omega
  have hm := List.getElem_mem hi
  generalize (fromL (keptG G))[(s - 1).toNat] = x at e hm
  subst e
  have hx := (mem_from a4).1 hm
  refine ⟨trim_rch h hx, fun hn => trim_prod h (rch_prod hp hx ?_) hx⟩
  rw [← hn]
  exact (P.non hm).symm

theorem pos_up {n : Nat} {x : Int} (h1 : 1 ≤ x) (h2 : x ≤ (n : Int)) : pos (up 0 n) x = x := by
  have hi : (x - 1).toNat < (up 0 n).length := by rw [up_length]; omega
  have e : (up 0 n)[(x - 1).toNat] = x := by rw [up_get]; omega
  have := pos_get (nodup_of_rises (up_rises 0 n)) hi
  rw [e] at this
  omega

/-- A grammar of which all is of use stays as it is. -/
theorem trim_self (h : checkN G = 0) (hu : Useful G) : trimG G = G := by
  obtain ⟨_, _, _, a4, _, _⟩ := Gr.check_ok h
  have hk : keepR G = G.rules := by
    unfold keepR
    rw [List.filter_eq_self]
    intro r hr
    rw [@decide_eq_true_iff _ (Classical.propDecidable _)]
    intro x hx hn
    have := (rule_known a4 hr).2 x hx
    exact (hu x this.1 this.2).2 hn
  have hkg : keptG G = G := by unfold keptG; rw [hk]
  have hf : fromL G = up 0 (top G) := by
    unfold fromL
    refine sel_all fun x hx => ?_
    have := mem_up.1 hx
    exact (hu x (by omega) (by omega)).1
  unfold trimG
  rw [hkg, hf]
  have P : Parts G (up 0 (top G)) (up 0 G.terms.length) (up G.terms.length G.nons.length) := ⟨by unfold Gr.top; rw [up_add], List.Sublist.refl _, List.Sublist.refl _⟩
  have e1 : (onlyG G (up 0 (top G))).terms = G.terms := by rw [P.terms, terms_up]
  have e2 : (onlyG G (up 0 (top G))).nons = G.nons := by rw [P.nons, nons_up]
  have hst := non_in (start_known a4)
  have e3 : (onlyG G (up 0 (top G))).start = G.start := pos_up hst.1 hst.2
  have e4 : (onlyG G (up 0 (top G))).rules = G.rules := by
    show ((G.rules.filter fun r => decide (r.1 ∈ up 0 (top G))).map fun r => (pos (up 0 (top G)) r.1, r.2.map (pos (up 0 (top G))))) = G.rules
    rw [List.filter_eq_self.2 (fun r hr => by
      have := non_in (rule_known a4 hr).1
      rw [decide_eq_true_iff, mem_up]
      omega)]
    refine (List.map_congr_left (g := id) fun r hr => ?_).trans (List.map_id _)
    have h1 := non_in (rule_known a4 hr).1
    have h2 := (rule_known a4 hr).2
    obtain ⟨x, l⟩ := r
    simp only [id, Prod.mk.injEq]
    exact ⟨pos_up h1.1 h1.2, (List.map_congr_left (g := id) fun y hy => pos_up (h2 y hy).1 (h2 y hy).2).trans (List.map_id _)⟩
  generalize onlyG G (up 0 (top G)) = K at e1 e2 e3 e4
  obtain ⟨t, n, r, s⟩ := K
  obtain ⟨t', n', r', s'⟩ := G
  simp only at e1 e2 e3 e4
  subst e1 e2 e3 e4
  rfl
theorem trim_trim (h : checkN G = 0) (hp : Prod G G.start) : trimG (trimG G) = trimG G := trim_self (trim_check h hp) (trim_useful h hp)
theorem useful_start (h : checkN G = 0) (hu : Useful G) : Prod G G.start := by
  obtain ⟨_, _, _, a4, _, _⟩ := Gr.check_ok h
  have := non_in (start_known a4)
  exact (hu _ this.1 this.2).2 (start_known a4)
theorem dead_none : deadN G = 0 ↔ Useful G := by
  unfold deadN
  cases hs : sel (Dead G) (up 0 (top G)) with
  | nil =>
    simp only [List.headD_nil, true_iff]
    intro s h1 h2
    have hd : ¬ Dead G s := fun hd => by
      have hm : s ∈ up 0 (top G) := mem_up.2 (by omega)
      have := mem_sel.2 ⟨hm, hd⟩
      rw [hs] at this
      cases this
    unfold Dead at hd
    rw [not_or, not_and, Classical.not_not] at hd
    exact ⟨hd.1, fun hn => Classical.not_not.1 (hd.2 hn)⟩
  | cons a r =>
    have hm : a ∈ sel (Dead G) (up 0 (top G)) := by rw [hs]; exact List.mem_cons_self ..
    rw [mem_sel, mem_up] at hm
    simp only [List.headD_cons]
    constructor
    · intro e
      omega
    · intro hu
      have := hu a (by omega) (by omega)
      rcases hm.2 with hd | ⟨hd1, hd2⟩
      · exact absurd this.1 hd
      · exact absurd (this.2 hd1) hd2
end

end Go.Proofs.YtljblpekpmgmaaaGreatDoor.Lv
