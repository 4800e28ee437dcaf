/-
  The plain answers of layer 9: Trim. No condition.
  The plain answers of layer 9: whether a number is in a list, its place, whether all nonterminals of a right side are in a list.
  The plain answers of layer 9: whether all nonterminals of a right side are in a list.
  The plain answers of layer 9: symbols that are in a list, rising.
  The plain answers of layer 9: Productive. No condition.
  The plain answers of layer 9: what is reached from Start, Reached. Condition for the first: the grammar's sizes are within bounds and its numbers are symbols.
  The plain answers of layer 9: Check. No condition.
  The plain answers of layer 9: what stands in memory while a grammar is put together with some symbols alone.
  The plain answers of layer 9: a grammar with some symbols alone. Condition: the grammar's sizes are within bounds and its numbers are symbols.
  The plain answers of layer 9: two lists of numbers held against each other.
-/
import Derived.Test.YtljblpekpmgmaaaGreatDoorLiveAwake
import Derived.Test.YtljblpekpmgmaaaGreatDoorGramNames
import Derived.Test.YtljblpekpmgmaaaGreatDoorGramEq
namespace Go.Proofs.YtljblpekpmgmaaaGreatDoor.Lv
open Go.RowKit Go.Maps
open Go.Proofs.YtljblpekpmgmaaaGreatDoor.Gr
set_option linter.unusedVariables false

/-- It is none of the first k. -/
def Nope (s : Int) (L : List Int) (k : Nat) : Prop := ∀ j (h : j < L.length), j < k → L[j] ≠ s
theorem nope_zero (s : Int) (L : List Int) : Nope s L 0 := fun _ _ h => absurd h (by omega)
theorem nope_step {s : Int} {L : List Int} {k : Nat} (h : Nope s L k) (hk : k < L.length) (e : L[k] ≠ s) : Nope s L (k + 1) := fun j hj hl => by
  by_cases he : j = k
  · subst he
    exact e
  · exact h j hj (by omega)
theorem nope_end {s : Int} {L : List Int} {k : Nat} (h : Nope s L k) (hk : ¬ k < L.length) : s ∉ L := fun hm => by
  obtain ⟨j, hj, e⟩ := List.getElem_of_mem hm
  exact h j hj (by omega) e
theorem pos_first {s : Int} {L : List Int} {k : Nat} (h : Nope s L k) (hk : k < L.length) (e : L[k] = s) : pos L s = (k : Int) + 1 := by
  induction L generalizing k with
  | nil => simp at hk
  | cons a r ih =>
    cases k with
    | zero =>
      simp at e
      subst e
      show (if a = a then (1 : Int) else _) = _
      rw [if_pos rfl]
      rfl
    | succ k =>
      have h0 : a ≠ s := h 0 (by simp) (by omega)
      have h1 := ih (k := k) (fun j hj hl => h (j + 1) (by simpa using hj) (by omega)) (by simpa using hk) (by simpa using e)
      show (if a = s then (1 : Int) else if pos r s = 0 then 0 else pos r s + 1) = _
      rw [if_neg h0, h1, if_neg (by omega)]
      omega

set_option maxHeartbeats 2000000 in
theorem rhas_any (L : List Int) (a : Option Addr) (c : Nat) (s : Int) (w : World) (hA : Sep.Reads a (ivs L) w) (hl : L.length ≤ 100000) :
    Calls Tryz.prog 24 #[.slice a L.length c, .int .i64 s] w (Is (.bool (decide (s ∈ L))) w) := by
  have HA := Lib.hid hA
  clear hA
  go_enter Tryz.func24, Tryz.ntmps24
  go_wp2
  go_loop [5] (fun i => ∃ k : Nat, k ≤ L.length ∧ i = .int .i64 k ∧ Nope s L k) (fun i => L.length - (intOf i).toNat)
  case atStart => exact ⟨0, Nat.zero_le _, rfl, nope_zero _ _⟩
  case round =>
    obtain ⟨k, hk, rfl, hN⟩ := hrel
    have N := Lib.hid hN
    clear hN
    by_cases hlt : k < L.length
    · obtain ⟨b, o, rfl, hc⟩ := int_at HA.out hlt
      have NS := Lib.hid (fun he => nope_step N.out hlt he)
      have NF := Lib.hid (fun (he : L[k] = s) => show s ∈ L from he ▸ List.getElem_mem hlt)
      generalize L[k] = x at hc NS NF
      by_cases hx : x = s
      · have M := Lib.hid (NF.out hx)
        subst hx
        go_wp2
        go_ret
        exact ⟨bool_of (by rw [decide_eq_true M.out]), .refl _ _⟩
      · have N2 := Lib.hid (NS.out hx)
        have hb : (x == s) = false := by simpa using hx
        clear hx
        go_wp2
        go_round
        case rel => exact ⟨k + 1, by omega, by go_num, N2.out⟩
        case measure => simp [intOf]; omega
    · have M := Lib.hid (nope_end N.out hlt)
      go_wp2
      go_ret
      exact ⟨bool_of (by rw [decide_eq_false M.out]), .refl _ _⟩

set_option maxHeartbeats 2000000 in
theorem rplace_any (L : List Int) (a : Option Addr) (c : Nat) (s : Int) (w : World) (hA : Sep.Reads a (ivs L) w) (hl : L.length ≤ 100000) :
    Calls Tryz.prog 62 #[.slice a L.length c, .int .i64 s] w (Is (.int .i64 (pos L s)) w) := by
  have HA := Lib.hid hA
  clear hA
  go_enter Tryz.func62, Tryz.ntmps62
  go_wp2
  go_loop [5] (fun i => ∃ k : Nat, k ≤ L.length ∧ i = .int .i64 k ∧ Nope s L k) (fun i => L.length - (intOf i).toNat)
  case atStart => exact ⟨0, Nat.zero_le _, rfl, nope_zero _ _⟩
  case round =>
    obtain ⟨k, hk, rfl, hN⟩ := hrel
    have N := Lib.hid hN
    clear hN
    by_cases hlt : k < L.length
    · obtain ⟨b, o, rfl, hc⟩ := int_at HA.out hlt
      have NS := Lib.hid (fun he => nope_step N.out hlt he)
      have NF := Lib.hid (fun he => pos_first N.out hlt he)
      generalize L[k] = x at hc NS NF
      by_cases hx : x = s
      · have M := Lib.hid (NF.out hx)
        subst hx
        go_wp2
        go_ret
        exact ⟨int_of M.out, .refl _ _⟩
      · have N2 := Lib.hid (NS.out hx)
        have hb : (x == s) = false := by simpa using hx
        clear hx
        go_wp2
        go_round
        case rel => exact ⟨k + 1, by omega, by go_num, N2.out⟩
        case measure => simp [intOf]; omega
    · have M := Lib.hid (pos_out (nope_end N.out hlt))
      go_wp2
      go_ret
      exact ⟨int_of M.out, .refl _ _⟩

/-- The first k symbols of a right side are fine. -/
def FineTo (G : Gram) (l R : List Int) (k : Nat) : Prop := ∀ j (h : j < R.length), j < k → (!nonB G R[j] || decide (R[j] ∈ l)) = true
theorem fineTo_zero (G : Gram) (l R : List Int) : FineTo G l R 0 := fun _ _ h => absurd h (by omega)
theorem fineTo_step {G : Gram} {l R : List Int} {k : Nat} (h : FineTo G l R k) (hk : k < R.length) (e : (!nonB G R[k] || decide (R[k] ∈ l)) = true) : FineTo G l R (k + 1) := fun j hj hl => by
  by_cases he : j = k
  · subst he
    exact e
  · exact h j hj (by omega)
theorem fineTo_end {G : Gram} {l : List Int} {r : Int × List Int} {k : Nat} (h : FineTo G l r.2 k) (hk : ¬ k < r.2.length) : fineB G r l = true := by
  unfold fineB
  rw [List.all_eq_true]
  intro x hx
  obtain ⟨j, hj, e⟩ := List.getElem_of_mem hx
  subst e
  exact h j hj (by omega)
theorem fineTo_fail {G : Gram} {l : List Int} {r : Int × List Int} {k : Nat} (hk : k < r.2.length) (e : (!nonB G r.2[k] || decide (r.2[k] ∈ l)) = false) : fineB G r l = false := by
  unfold fineB
  rw [List.all_eq_false]
  exact ⟨_, List.getElem_mem hk, by rw [e]; decide⟩

end Go.Proofs.YtljblpekpmgmaaaGreatDoor.Lv

namespace Go.Proofs.YtljblpekpmgmaaaGreatDoor.Lv
open Go.RowKit Go.Maps
open Go.Proofs.YtljblpekpmgmaaaGreatDoor.Gr
open Go.Proofs.YtljblpekpmgmaaaGreatDoor.Rw (Bk)
set_option linter.unusedVariables false

def FineRel (W : World) (h : Sh) (G : Gram) (l : List Int) (r : Int × List Int) (ra : Option Addr) (rc : Nat) (i : Value) (w : World) : Prop :=
  ∃ k : Nat, k ≤ r.2.length ∧ i = .int .i64 k ∧ FineTo G l r.2 k ∧ Bx W h G w ∧ Bk (W.heap.size + 1) #[.int .i64 r.1, .slice ra r.2.length rc] 39 w

set_option maxRecDepth 100000 in
set_option maxHeartbeats 8000000 in
theorem rfine_any (h : Sh) (G : Gram) (r : Int × List Int) (ra : Option Addr) (rc : Nat) (l : List Int) (la : Option Addr) (lc : Nat) (w : World) (k : GAt h G w) (hR : Sep.Reads ra (ivs r.2) w) (hrl : r.2.length ≤ 100000) (hL : Sep.Reads la (ivs l) w) (hll : l.length ≤ 100000) :
    Calls Tryz.prog 28 #[gv h G, .agg #[.int .i64 r.1, .slice ra r.2.length rc], .slice la l.length lc] w (Is (.bool (fineB G r l)) w) := by
  have b1 := boxed (w.alloc (.cells #[.slice h.a1 G.terms.length h.c1, .slice h.a2 G.nons.length h.c2, .slice h.a3 G.rules.length h.c3, .int .i64 G.start] 25)) (.cells #[.int .i64 r.1, .slice ra r.2.length rc] 39)
  have X := Lib.hid ((Bx.start h G w 25).went b1)
  have Q := Lib.hid (Bk.new (w.alloc (.cells #[.slice h.a1 G.terms.length h.c1, .slice h.a2 G.nons.length h.c2, .slice h.a3 G.rules.length h.c3, .int .i64 G.start] 25)) #[.int .i64 r.1, .slice ra r.2.length rc] 39 (w.heap.size + 1) (by simp))
  have N := Lib.hid (fun s w1 (b : Below w.heap.size w w1) => rnon_any h G s w1 (k.went b))
  have H := Lib.hid (fun s w1 (b : Below w.heap.size w w1) => rhas_any l la lc s w1 (Sep.Reads.below hL b (Nat.le_refl _)) hll)
  have RR := Lib.hid (fun w1 (b : Below w.heap.size w w1) => Sep.Reads.below hR b (Nat.le_refl _))
  clear k hR hL b1
  unfold gv
  go_enter Tryz.func28, Tryz.ntmps28
  go_wp2
  go_loopw [7] (fun i wr => FineRel w h G l r ra rc i wr) (fun i _ => r.2.length - (intOf i).toNat)
  case atStart => exact ⟨0, Nat.zero_le _, rfl, fineTo_zero _ _ _, X.out, Q.out⟩
  case round =>
    clear X Q
    obtain ⟨k, hk, rfl, hF, hX, hQ⟩ := hrel
    have F := Lib.hid hF
    have X := Lib.hid hX
    have Q := Lib.hid hQ
    obtain ⟨x0, x1, x2, x3⟩ := hX.box
    obtain ⟨q0, q1, qf⟩ := hQ.two
    clear hF hX hQ
    by_cases hlt : k < r.2.length
    · obtain ⟨b, o, rfl, hc⟩ := int_at (RR.out _ X.out.below) hlt
      have FS := Lib.hid (fun he => fineTo_step F.out hlt he)
      have FF := Lib.hid (fun he => fineTo_fail (G := G) (l := l) hlt he)
      generalize r.2[k] = x at hc FS FF
      have NX := Lib.hid (N.out x)
      have HX := Lib.hid (H.out x)
      have hbd := drawn wr
      have HQ := Lib.hid (six' (W := wr) (b := b) (o := o) (m := k) x0 x1 x2 x3 q1 hc)
      cases hn : nonB G x with
      | false =>
        have F2 := Lib.hid (FS.out (by rw [hn]; rfl))
        rw [hn] at NX
        clear hn N H HX
        go_wp2
        refine wp_region_held_drew (S := fun w' => w'.cell? ⟨w.heap.size, 0, none⟩ = some (.slice h.a1 G.terms.length h.c1) ∧ w'.cell? ⟨w.heap.size, 1, none⟩ = some (.slice h.a2 G.nons.length h.c2) ∧ w'.cell? ⟨w.heap.size, 2, none⟩ = some (.slice h.a3 G.rules.length h.c3) ∧ w'.cell? ⟨w.heap.size, 3, none⟩ = some (.int .i64 G.start) ∧ w'.cell? ⟨w.heap.size + 1, 1, none⟩ = some (.slice (some ⟨b, o, none⟩) r.2.length rc) ∧ w'.cell? ⟨b, o + k, none⟩ = some (.int .i64 x) ∧ Below wr.heap.size wr w') (by kernel_rfl) (HQ.out _ hbd) (fun hHeld => ?_)
        clear x0 x1 x2 x3 q0 q1 qf hc
        refine wpAnyH_take (i := 0) (oi := _) (v := .agg #[.slice h.a1 G.terms.length h.c1, .slice h.a2 G.nons.length h.c2, .slice h.a3 G.rules.length h.c3, .int .i64 G.start]) rfl (by kernel_rfl) (by kernel_rfl) (by kernel_rfl) (fun _ _ _ h => h) (Or.inl ⟨by rfl, fun w5 hs5 => by obtain ⟨s0, s1, s2, s3, s4, s5, s6⟩ := hs5; go_simp⟩) (by assumption) ?_
        change wpAnyH _ _ _ _ _ _ _ (Act.put _ (some 15) _) _
        simp only [Act.put, List.setIfInBounds_toArray, List.set_cons_zero, List.set_cons_succ]
        refine wpAnyH_take (i := 1) (oi := _) (v := .pointer (some ⟨w.heap.size + 1, 1, none⟩)) rfl (by kernel_rfl) (by kernel_rfl) (by kernel_rfl) (fun _ _ _ h => h) (Or.inl ⟨by rfl, fun w5 hs5 => by obtain ⟨s0, s1, s2, s3, s4, s5, s6⟩ := hs5; go_simp⟩) (by assumption) ?_
        change wpAnyH _ _ _ _ _ _ _ (Act.put _ (some 16) _) _
        simp only [Act.put, List.setIfInBounds_toArray, List.set_cons_zero, List.set_cons_succ]
        refine wpAnyH_take (i := 2) (oi := _) (v := .slice (some ⟨b, o, none⟩) r.2.length rc) rfl (by kernel_rfl) (by kernel_rfl) (by kernel_rfl) (fun _ _ _ h => h) (Or.inl ⟨by rfl, fun w5 hs5 => by obtain ⟨s0, s1, s2, s3, s4, s5, s6⟩ := hs5; go_simp⟩) (by assumption) ?_
        change wpAnyH _ _ _ _ _ _ _ (Act.put _ (some 17) _) _
        simp only [Act.put, List.setIfInBounds_toArray, List.set_cons_zero, List.set_cons_succ]
        refine wpAnyH_take (i := 3) (oi := _) (v := .int .i64 k) rfl (by kernel_rfl) (by kernel_rfl) (by kernel_rfl) (fun _ _ _ h => h) (Or.inl ⟨by rfl, fun w5 hs5 => by obtain ⟨s0, s1, s2, s3, s4, s5, s6⟩ := hs5; go_simp⟩) (by assumption) ?_
        change wpAnyH _ _ _ _ _ _ _ (Act.put _ (some 18) _) _
        simp only [Act.put, List.setIfInBounds_toArray, List.set_cons_zero, List.set_cons_succ]
        refine wpAnyH_take (i := 4) (oi := _) (v := .pointer (some ⟨b, o + k, none⟩)) rfl (by kernel_rfl) (by kernel_rfl) (by kernel_rfl) (fun _ _ _ h => h) (Or.inl ⟨by rfl, fun w5 hs5 => by obtain ⟨s0, s1, s2, s3, s4, s5, s6⟩ := hs5; go_simp⟩) (by assumption) ?_
        change wpAnyH _ _ _ _ _ _ _ (Act.put _ (some 19) _) _
        simp only [Act.put, List.setIfInBounds_toArray, List.set_cons_zero, List.set_cons_succ]
        refine wpAnyH_take (i := 5) (oi := _) (v := .int .i64 x) rfl (by kernel_rfl) (by kernel_rfl) (by kernel_rfl) (fun _ _ _ h => h) (Or.inl ⟨by rfl, fun w5 hs5 => by obtain ⟨s0, s1, s2, s3, s4, s5, s6⟩ := hs5; go_simp⟩) (by assumption) ?_
        change wpAnyH _ _ _ _ _ _ _ (Act.put _ (some 20) _) _
        simp only [Act.put, List.setIfInBounds_toArray, List.set_cons_zero, List.set_cons_succ]
        refine wpAnyH_ready (rs := [6]) (by kernel_rfl) (by simp) ?_
        refine AllReadyH.cons (o := _) rfl (fun K' hK' => ?_) AllReadyH.nil
        go_simp
        refine (NX.out _ (Gr.step X.out.below hbd)).mono ?_
        rintro e wo ⟨rfl, hb⟩
        have kB : Below wr.heap.size wr wo := Gr.step hbd hb
        clear hb hHeld
        refine hK'.out _ _ (HQ.out _ kB) (fun hHeld => ?_)
        clear hK'
        refine wpAnyH_take (i := 7) (oi := _) (v := .bool false) rfl (by kernel_rfl) (by kernel_rfl) (by kernel_rfl) (fun _ _ _ h => h) (Or.inl ⟨by rfl, fun w5 hs5 => by obtain ⟨s0, s1, s2, s3, s4, s5, s6⟩ := hs5; go_simp⟩) (by assumption) ?_
        change wpAnyH _ _ _ _ _ _ _ (Act.put _ (some 22) _) _
        simp only [Act.put, List.setIfInBounds_toArray, List.set_cons_zero, List.set_cons_succ]
        refine wpAnyH_take (i := 8) (oi := _) (v := undef) rfl (by kernel_rfl) (by kernel_rfl) (by kernel_rfl) (fun _ _ _ h => h) (Or.inr ⟨by rfl, rfl⟩) (by assumption) ?_
        change wpAnyH _ _ _ _ _ _ _ (Act.put _ (some 23) _) _
        simp only [Act.put, List.setIfInBounds_toArray, List.set_cons_zero, List.set_cons_succ]
        refine wpAnyH_take (i := 9) (oi := _) (v := undef) rfl (by kernel_rfl) (by kernel_rfl) (by kernel_rfl) (fun _ _ _ h => h) (Or.inr ⟨by rfl, rfl⟩) (by assumption) ?_
        change wpAnyH _ _ _ _ _ _ _ (Act.put _ (some 24) _) _
        simp only [Act.put, List.setIfInBounds_toArray, List.set_cons_zero, List.set_cons_succ]
        refine wpAnyH_take (i := 10) (oi := _) (v := undef) rfl (by kernel_rfl) (by kernel_rfl) (by kernel_rfl) (fun _ _ _ h => h) (Or.inr ⟨by rfl, rfl⟩) (by assumption) ?_
        change wpAnyH _ _ _ _ _ _ _ (Act.put _ (some 25) _) _
        simp only [Act.put, List.setIfInBounds_toArray, List.set_cons_zero, List.set_cons_succ]
        refine wpAnyH_take (i := 11) (oi := _) (v := undef) rfl (by kernel_rfl) (by kernel_rfl) (by kernel_rfl) (fun _ _ _ h => h) (Or.inr ⟨by rfl, rfl⟩) (by assumption) ?_
        change wpAnyH _ _ _ _ _ _ _ (Act.put _ (some 26) _) _
        simp only [Act.put, List.setIfInBounds_toArray, List.set_cons_zero, List.set_cons_succ]
        refine wpAnyH_take (i := 12) (oi := _) (v := undef) rfl (by kernel_rfl) (by kernel_rfl) (by kernel_rfl) (fun _ _ _ h => h) (Or.inr ⟨by rfl, rfl⟩) (by assumption) ?_
        change wpAnyH _ _ _ _ _ _ _ (Act.put _ (some 27) _) _
        simp only [Act.put, List.setIfInBounds_toArray, List.set_cons_zero, List.set_cons_succ]
        refine wpAnyH_take (i := 13) (oi := _) (v := undef) rfl (by kernel_rfl) (by kernel_rfl) (by kernel_rfl) (fun _ _ _ h => h) (Or.inr ⟨by rfl, rfl⟩) (by assumption) ?_
        change wpAnyH _ _ _ _ _ _ _ (Act.put _ (some 28) _) _
        simp only [Act.put, List.setIfInBounds_toArray, List.set_cons_zero, List.set_cons_succ]
        refine wpAnyH_take (i := 14) (oi := _) (v := undef) rfl (by kernel_rfl) (by kernel_rfl) (by kernel_rfl) (fun _ _ _ h => h) (Or.inr ⟨by rfl, rfl⟩) (by assumption) ?_
        change wpAnyH _ _ _ _ _ _ _ (Act.put _ (some 29) _) _
        simp only [Act.put, List.setIfInBounds_toArray, List.set_cons_zero, List.set_cons_succ]
        refine wpAnyH_take (i := 15) (oi := _) (v := undef) rfl (by kernel_rfl) (by kernel_rfl) (by kernel_rfl) (fun _ _ _ h => h) (Or.inr ⟨by rfl, rfl⟩) (by assumption) ?_
        change wpAnyH _ _ _ _ _ _ _ (Act.put _ (some 30) _) _
        simp only [Act.put, List.setIfInBounds_toArray, List.set_cons_zero, List.set_cons_succ]
        refine wpAnyH_take (i := 16) (oi := _) (v := .bool false) rfl (by kernel_rfl) (by kernel_rfl) (by kernel_rfl) (fun _ _ _ h => h) (Or.inl ⟨by rfl, fun w5 hs5 => by obtain ⟨s0, s1, s2, s3, s4, s5, s6⟩ := hs5; go_simp⟩) (by assumption) ?_
        change wpAnyH _ _ _ _ _ _ _ (Act.put _ (some 31) _) _
        simp only [Act.put, List.setIfInBounds_toArray, List.set_cons_zero, List.set_cons_succ]
        refine wpAnyH_done (by kernel_rfl) ?_ _
        clear hHeld
        go_wp2
        go_roundw
        case rel => exact ⟨k + 1, by omega, by go_num, F2.out, X.out.went kB, Q.out.went kB⟩
        case measure => simp [intOf]; omega
      | true =>
        rw [hn] at NX
        cases hm : decide (x ∈ l) with
        | true =>
          have F2 := Lib.hid (FS.out (by rw [hm]; simp))
          rw [hm] at HX
          clear hn hm N H
          go_wp2
          clear x0 x1 x2 x3 q0 q1 qf hc
          go_region_held3 (fun w' => w'.cell? ⟨w.heap.size, 0, none⟩ = some (.slice h.a1 G.terms.length h.c1) ∧ w'.cell? ⟨w.heap.size, 1, none⟩ = some (.slice h.a2 G.nons.length h.c2) ∧ w'.cell? ⟨w.heap.size, 2, none⟩ = some (.slice h.a3 G.rules.length h.c3) ∧ w'.cell? ⟨w.heap.size, 3, none⟩ = some (.int .i64 G.start) ∧ w'.cell? ⟨w.heap.size + 1, 1, none⟩ = some (.slice (some ⟨b, o, none⟩) r.2.length rc) ∧ w'.cell? ⟨b, o + k, none⟩ = some (.int .i64 x) ∧ Below wr.heap.size wr w')
            (exact HQ.out _ (by assumption))
            (first
              | (go_at_call 25; refine (NX.out _ (Gr.step X.out.below hbd)).mono ?_; rintro e wn ⟨rfl, hb⟩; have l1 : Below wr.heap.size wr wn := Gr.step hbd hb; clear hb)
              | (go_at_call 24; refine (HX.out _ (Gr.step X.out.below l1)).mono ?_; rintro e wn2 ⟨rfl, hb⟩; have l2 : Below wr.heap.size wr wn2 := Gr.step l1 hb; clear hb)
              | fail)
          go_wp2
          go_roundw
          case rel => exact ⟨k + 1, by omega, by go_num, F2.out, X.out.went l2, Q.out.went l2⟩
          case measure => simp [intOf]; omega
        | false =>
          have E := Lib.hid (FF.out (by rw [hn, hm]; rfl))
          rw [hm] at HX
          clear hn hm N H
          go_wp2
          clear x0 x1 x2 x3 q0 q1 qf hc
          go_region_held3 (fun w' => w'.cell? ⟨w.heap.size, 0, none⟩ = some (.slice h.a1 G.terms.length h.c1) ∧ w'.cell? ⟨w.heap.size, 1, none⟩ = some (.slice h.a2 G.nons.length h.c2) ∧ w'.cell? ⟨w.heap.size, 2, none⟩ = some (.slice h.a3 G.rules.length h.c3) ∧ w'.cell? ⟨w.heap.size, 3, none⟩ = some (.int .i64 G.start) ∧ w'.cell? ⟨w.heap.size + 1, 1, none⟩ = some (.slice (some ⟨b, o, none⟩) r.2.length rc) ∧ w'.cell? ⟨b, o + k, none⟩ = some (.int .i64 x) ∧ Below wr.heap.size wr w')
            (exact HQ.out _ (by assumption))
            (first
              | (go_at_call 25; refine (NX.out _ (Gr.step X.out.below hbd)).mono ?_; rintro e wn ⟨rfl, hb⟩; have l1 : Below wr.heap.size wr wn := Gr.step hbd hb; clear hb)
              | (go_at_call 24; refine (HX.out _ (Gr.step X.out.below l1)).mono ?_; rintro e wn2 ⟨rfl, hb⟩; have l2 : Below wr.heap.size wr wn2 := Gr.step l1 hb; clear hb)
              | fail)
          go_wp2
          go_ret
          exact ⟨bool_of E.out, Gr.step X.out.below l2⟩
    · have E := Lib.hid (fineTo_end F.out hlt)
      go_wp2
      go_ret
      exact ⟨bool_of E.out, X.out.below⟩

end Go.Proofs.YtljblpekpmgmaaaGreatDoor.Lv

namespace Go.Proofs.YtljblpekpmgmaaaGreatDoor.Lv
open Go.RowKit Go.Maps
open Go.Proofs.YtljblpekpmgmaaaGreatDoor.Gr
set_option linter.unusedVariables false

def sortTo (l : List Int) (j : Nat) : List Int := (up 0 j).filter fun s => decide (s ∈ l)
theorem sortTo_zero (l : List Int) : sortTo l 0 = [] := rfl
theorem sortTo_hit {l : List Int} {j : Nat} (h : ((j : Int) + 1) ∈ l) : sortTo l (j + 1) = sortTo l j ++ [(j : Int) + 1] := by
  unfold sortTo
  rw [up_snoc, List.filter_append]
  simp [h]
theorem sortTo_miss {l : List Int} {j : Nat} (h : ((j : Int) + 1) ∉ l) : sortTo l (j + 1) = sortTo l j := by
  unfold sortTo
  rw [up_snoc, List.filter_append]
  simp [h]
theorem sortTo_le (l : List Int) (j : Nat) : (sortTo l j).length ≤ j := by
  unfold sortTo
  exact Nat.le_trans (List.length_filter_le _ _) (by rw [up_length]; exact Nat.le_refl _)

/-- The same, and the world as it was. -/
theorem rhas_same (L : List Int) (a : Option Addr) (c : Nat) (s : Int) (w : World) (hA : Sep.Reads a (ivs L) w) (hl : L.length ≤ 100000) :
    Calls Tryz.prog 24 #[.slice a L.length c, .int .i64 s] w fun e w' => e = .returned (.bool (decide (s ∈ L))) ∧ w' = w := by
  have HA := Lib.hid hA
  clear hA
  go_enter Tryz.func24, Tryz.ntmps24
  go_wp2
  go_loop [5] (fun i => ∃ k : Nat, k ≤ L.length ∧ i = .int .i64 k ∧ Nope s L k) (fun i => L.length - (intOf i).toNat)
  case atStart => exact ⟨0, Nat.zero_le _, rfl, nope_zero _ _⟩
  case round =>
    obtain ⟨k, hk, rfl, hN⟩ := hrel
    have N := Lib.hid hN
    clear hN
    by_cases hlt : k < L.length
    · obtain ⟨b, o, rfl, hc⟩ := int_at HA.out hlt
      have NS := Lib.hid (fun he => nope_step N.out hlt he)
      have NF := Lib.hid (fun (he : L[k] = s) => show s ∈ L from he ▸ List.getElem_mem hlt)
      generalize L[k] = x at hc NS NF
      by_cases hx : x = s
      · have M := Lib.hid (NF.out hx)
        subst hx
        go_wp2
        go_ret
        exact ⟨bool_of (by rw [decide_eq_true M.out]), rfl⟩
      · have N2 := Lib.hid (NS.out hx)
        have hb : (x == s) = false := by simpa using hx
        clear hx
        go_wp2
        go_round
        case rel => exact ⟨k + 1, by omega, by go_num, N2.out⟩
        case measure => simp [intOf]; omega
    · have M := Lib.hid (nope_end N.out hlt)
      go_wp2
      go_ret
      exact ⟨bool_of (by rw [decide_eq_false M.out]), rfl⟩

def SortRel (W : World) (h : Sh) (G : Gram) (l : List Int) (v i : Value) (w : World) : Prop :=
  ∃ j : Nat, j ≤ top G ∧ i = .int .i64 ((j : Int) + 1) ∧ w.ownsRow (W.heap.size + 1) 3 1 v (sortTo l j).length (ivs (sortTo l j)) ∧ Bx W h G w

set_option maxRecDepth 100000 in
set_option maxHeartbeats 4000000 in
theorem rsort_any (h : Sh) (G : Gram) (l : List Int) (la : Option Addr) (lc : Nat) (w : World) (k : GAt h G w) (hL : Sep.Reads la (ivs l) w) (hll : l.length ≤ 100000) (ht : top G ≤ 1000) :
    Calls Tryz.prog 33 #[gv h G, .slice la l.length lc] w (Listed (sortTo l (top G)) w) := by
  obtain ⟨i0, hi, hz0, hz1, hz2⟩ := info_parts info_int
  have X := Lib.hid (Bx.start h G w 25)
  have T := Lib.hid (fun w1 (b : Below w.heap.size w w1) => rtop_any h G w1 (k.went b))
  have H := Lib.hid (fun s w1 (b : Below w.heap.size w w1) => rhas_same l la lc s w1 (Sep.Reads.below hL b (Nat.le_refl _)) hll)
  have HO := Lib.hid (show (w.alloc (.cells #[.slice h.a1 G.terms.length h.c1, .slice h.a2 G.nons.length h.c2, .slice h.a3 G.rules.length h.c3, .int .i64 G.start] 25)).ownsRow (w.heap.size + 1) 3 1 (.slice none 0 0) (sortTo l 0).length (ivs (sortTo l 0)) from ⟨rfl, .inl ⟨rfl, rfl⟩⟩)
  clear k hL
  unfold gv
  go_enter Tryz.func33, Tryz.ntmps33
  go_wp2
  go_loopw [5, 6] (fun v i wr => SortRel w h G l v i wr) (fun _ i _ => (top G + 1) - (intOf i).toNat)
  case atStart => exact ⟨0, Nat.zero_le _, rfl, HO.out, X.out⟩
  case round =>
    clear X HO
    obtain ⟨j, hj, rfl, hO, hX⟩ := hrel
    obtain ⟨a', c', rfl⟩ := Sep.ownsRow_shape hO
    have X := Lib.hid hX
    have O := Lib.hid hO
    have hle := sortTo_le l j
    obtain ⟨x0, x1, x2, x3⟩ := hX.box
    clear hO hX
    by_cases hlt : j < top G
    · have HC := Lib.hid (fun w1 (b : Below w.heap.size w w1) => H.out ((j : Int) + 1) w1 b)
      cases hm : decide (((j : Int) + 1) ∈ l) with
      | false =>
        have E := Lib.hid (sortTo_miss (of_decide_eq_false hm))
        rw [hm] at HC
        clear hm H
        go_wp2_with (first
          | (go_at_call 23; refine (T.out _ X.out.below).mono ?_; rintro e w1 ⟨rfl, hb⟩; have X1 := Lib.hid (X.out.went hb); have O1 := Lib.hid (Sep.ownsRow_at O.out fun g hg => hb.block g (O.out.lt g hg).2); clear hb x0 x1 x2 x3)
          | (go_at_call 24; refine (HC.out _ X1.out.below).mono ?_; rintro e w2 ⟨rfl, rfl⟩)
          | (at_builtin; fail))
        go_roundw
        case rel => exact ⟨j + 1, by omega, by go_num, by rw [E.out]; exact O1.out, X1.out⟩
        case measure => simp [intOf]; omega
      | true =>
        have E := Lib.hid (sortTo_hit (of_decide_eq_true hm))
        rw [hm] at HC
        clear hm H
        go_wp2_with (first
          | (go_at_call 23; refine (T.out _ X.out.below).mono ?_; rintro e w1 ⟨rfl, hb⟩; have X1 := Lib.hid (X.out.went hb); have O1 := Lib.hid (Sep.ownsRow_at O.out fun g hg => hb.block g (O.out.lt g hg).2); clear hb x0 x1 x2 x3)
          | (go_at_call 24; refine (HC.out _ X1.out.below).mono ?_; rintro e w2 ⟨rfl, rfl⟩)
          | (at_builtin; refine wpList_append_own _ rfl _ _ 34 rfl (w.heap.size + 1) 3 i0 (.int .i64 0) 1 8 Tryz.underlying34 hi hz0 hz1 hz2 rfl (by decide) _ _ _ rfl (O1.out.alloc _) ⟨_, 0, none⟩ 1 1 [iv ((j : Int) + 1)] rfl rfl ?c1 ?c2 ?c3 ?c4 ?c5 ?_))
        case c1 =>
          intro i u hi
          match i, hi with
          | 0, hi => simp at hi; subst hi; simp [Addr.add, iv]
        case c2 => intro u hu; simp at hu; subst hu; rfl
        case c3 => unfold maxLen; omega
        case c4 => omega
        case c5 => have := X1.out.size; simp; omega
        intro v' w3 hown' hgrow _
        have X3 := Lib.hid ((X1.out.alloc _).grown hgrow fun q hq => (O1.out.lt q hq).1)
        have O3 := Lib.hid (show w3.ownsRow (w.heap.size + 1) 3 1 v' (sortTo l (j + 1)).length (ivs (sortTo l (j + 1))) by rw [E.out]; simpa [ivs] using hown')
        clear hown' hgrow
        go_wp2
        go_roundw
        case rel => exact ⟨j + 1, by omega, by go_num, O3.out, X3.out⟩
        case measure => simp [intOf]; omega
    · have hE : j = top G := by omega
      subst hE
      go_wp2_with (go_at_call 23; refine (T.out _ X.out.below).mono ?_; rintro e w1 ⟨rfl, hb⟩; have X1 := Lib.hid (X.out.went hb); have O1 := Lib.hid (Sep.ownsRow_at O.out fun g hg => hb.block g (O.out.lt g hg).2); clear hb x0 x1 x2 x3)
      go_ret
      exact ⟨_, _, rfl, Sep.Reads.of_row O1.out, row_new (W := w) O1.out (by omega), X1.out.below⟩

end Go.Proofs.YtljblpekpmgmaaaGreatDoor.Lv

namespace Go.Proofs.YtljblpekpmgmaaaGreatDoor.Lv
open Go.RowKit Go.Maps
open Go.Proofs.YtljblpekpmgmaaaGreatDoor.Gr
set_option linter.unusedVariables false

theorem stepP_had {G : Gram} {l : List Int} {r : Int × List Int} (h : r.1 ∈ l) : stepP G l r = l := by
  unfold stepP
  split
  · exact add_in h
  · rfl
theorem stepP_no {G : Gram} {l : List Int} {r : Int × List Int} (h : fineB G r l = false) : stepP G l r = l := by
  unfold stepP
  rw [if_neg (by rw [h]; decide)]
theorem stepP_yes {G : Gram} {l : List Int} {r : Int × List Int} (h : r.1 ∉ l) (hf : fineB G r l = true) : stepP G l r = l ++ [r.1] := by
  unfold stepP
  rw [if_pos hf, add_new h]

def RowI (base : Nat) (l : List Int) (v : Value) (w : World) : Prop := w.ownsRow base 3 1 v l.length (ivs l)
theorem RowI.went {base : Nat} {l : List Int} {v : Value} {w w' : World} (h : RowI base l v w) (hb : Below w.heap.size w w') : RowI base l v w' := Sep.ownsRow_at h fun g hg => hb.block g (World.ownsRow.lt h g hg).2
theorem RowI.reads {base n c : Nat} {l : List Int} {a : Option Addr} {w : World} (h : RowI base l (.slice a n c) w) : Sep.Reads a (ivs l) w := by
  obtain ⟨a', c', e⟩ := Sep.ownsRow_shape h
  simp only [Value.slice.injEq] at e
  obtain ⟨rfl, rfl, rfl⟩ := e
  exact Sep.Reads.of_row h

/-- A round adds none. -/
def DoneP (G : Gram) (l : List Int) : Prop := (roundP G l G.rules.length).length = l.length
def OutRel (W : World) (h : Sh) (G : Gram) (g : Nat) (v n : Value) (w : World) : Prop :=
  ∃ (l : List Int) (m : Int), n = .int .i64 m ∧ RowI (W.heap.size + 1) l v w ∧ Bx W h G w ∧ OkP G l ∧ (m = (l.length : Int) → DoneP G l) ∧ (m ≠ (l.length : Int) → G.nons.length + 2 ≤ g + l.length)
def InRel (W : World) (h : Sh) (G : Gram) (l0 : List Int) (v i : Value) (w : World) : Prop :=
  ∃ j : Nat, j ≤ G.rules.length ∧ i = .int .i64 j ∧ RowI (W.heap.size + 1) (roundP G l0 j) v w ∧ Bx W h G w

set_option maxRecDepth 100000 in
set_option maxHeartbeats 16000000 in
theorem rproductive_any (h : Sh) (G : Gram) (w : World) (k : GAt h G w) :
    Calls Tryz.prog 12 #[gv h G] w (Listed (prodL G) w) := by
  obtain ⟨i0, hi, hz0, hz1, hz2⟩ := info_parts info_int
  obtain ⟨a1, c1, a2, c2, a3, c3⟩ := h
  have X := Lib.hid (Bx.start ⟨a1, c1, a2, c2, a3, c3⟩ G w 25)
  have C := Lib.hid (fun w1 (b : Below w.heap.size w w1) => rcheck_any ⟨a1, c1, a2, c2, a3, c3⟩ G w1 (k.went b))
  obtain ⟨x0, x1, x2, x3⟩ := X.out.box
  try dsimp only at x0 x1 x2 x3
  by_cases hc : checkN G = 0
  · have SM := Lib.hid (sml_of hc)
    have htop : top G ≤ 240 := by have := SM.out.t; have := SM.out.n; unfold top; omega
    have hnn := SM.out.n
    have hrl := SM.out.r
    have hr1 := k.r1
    have FI := Lib.hid (fun r ra rc l la lc w1 (b : Below w.heap.size w w1) hR hrl hL hll => rfine_any ⟨a1, c1, a2, c2, a3, c3⟩ G r ra rc l la lc w1 (k.went b) hR hrl hL hll)
    have SO := Lib.hid (fun l la lc w1 (b : Below w.heap.size w w1) hL hll => rsort_any ⟨a1, c1, a2, c2, a3, c3⟩ G l la lc w1 (k.went b) hL hll (by omega))
    have RU := Lib.hid k.rules
    have PE := Lib.hid (show prodL G = sel (Prod G) (up 0 (top G)) by unfold prodL; rw [if_pos hc])
    have S0 := Lib.hid (show RowI (w.heap.size + 1) [] (.slice none 0 0) w from ⟨rfl, .inl ⟨rfl, rfl⟩⟩)
    rw [hc] at C
    clear k hc
    unfold gv
    dsimp only
    go_enter Tryz.func12, Tryz.ntmps12
    go_wp2_with (go_at_call 22; refine (C.out _ X.out.below).mono ?_; rintro e w1 ⟨rfl, hb⟩; have X1 := Lib.hid (X.out.went hb); clear hb x0 x1 x2 x3)
    clear C X
    go_loopg [3, 4] (G.nons.length + 2) (fun g v n wr => OutRel w ⟨a1, c1, a2, c2, a3, c3⟩ G g v n wr)
    case atStart => exact ⟨[], -1, rfl, ⟨rfl, .inl ⟨rfl, rfl⟩⟩, X1.out, OkP.nil G, fun h => absurd h (by decide), fun _ => by simp⟩
    case round =>
      clear X1 S0
      obtain ⟨l, m, rfl, hO, hX, hP, hd, hg⟩ := hrel
      obtain ⟨la, lc, rfl⟩ := Sep.ownsRow_shape hO
      have O := Lib.hid hO
      have X := Lib.hid hX
      have P := Lib.hid hP
      have hll := hP.len SM.out.known
      obtain ⟨x0, x1, x2, x3⟩ := hX.box
      try dsimp only at x0 x1 x2 x3
      clear hO hX hP
      by_cases hm : m = (l.length : Int)
      · have AL := Lib.hid (P.out.all (hd hm))
        have EE := Lib.hid (show sortTo l (top G) = prodL G by rw [PE.out]; exact sort_sel AL.out _)
        have SC := Lib.hid (SO.out l la lc wr X.out.below O.out.reads (by omega))
        rw [EE.out] at SC
        subst hm
        clear hd hg FI RU
        go_wp2_with (go_at_call 33; refine SC.out.mono ?_; rintro e w2 ⟨a, c, rfl, hR, hN, hb⟩; have B2 := Lib.hid (Gr.step X.out.below hb); have R2 := Lib.hid hR; have N2 := Lib.hid (show New a w from fun x hx => Nat.le_trans X.out.below.size (hN x hx)); clear hb hR hN)
        go_ret
        exact ⟨a, c, rfl, R2.out, N2.out, B2.out⟩
      · have G1 := Lib.hid (hg hm)
        have hmb : (m != (l.length : Int)) = true := by simpa using hm
        clear hd hg hm
        go_wp2
        clear x0 x1 x2 x3
        go_loopw [3, 5] (fun v i wr => InRel w ⟨a1, c1, a2, c2, a3, c3⟩ G l v i wr) (fun _ i _ => G.rules.length - (intOf i).toNat)
        case atStart => exact ⟨0, Nat.zero_le _, rfl, O.out, X.out⟩
        case round =>
          clear O X
          obtain ⟨j, hj, rfl, hO, hX⟩ := hrel
          obtain ⟨ja, jc, rfl⟩ := Sep.ownsRow_shape hO
          have O := Lib.hid hO
          have X := Lib.hid hX
          obtain ⟨x0, x1, x2, x3⟩ := hX.box
          try dsimp only at x0 x1 x2 x3
          clear hO hX
          by_cases hlt : j < G.rules.length
          · obtain ⟨b, o, ra, rc, e, h1, h2, h3, h4, h5⟩ := RU.out j hlt
            try dsimp only at e
            subst e
            replace h1 := cell_later X.out.below h1
            replace h2 := cell_later X.out.below h2
            have hlj := (P.out.round j hj).len SM.out.known
            have RN := Lib.hid (roundP_next (G := G) (l := l) hlt)
            have RI := Lib.hid (stepP_had (G := G) (l := roundP G l j) (r := G.rules[j]'hlt))
            have RO := Lib.hid (stepP_no (G := G) (l := roundP G l j) (r := G.rules[j]'hlt))
            have RY := Lib.hid (stepP_yes (G := G) (l := roundP G l j) (r := G.rules[j]'hlt))
            have hw8 := SM.out.w _ (List.getElem_mem hlt)
            generalize G.rules[j] = r at h1 h2 h3 h4 h5 RN RI RO RY hw8
            generalize roundP G l j = lj at *
            have HC := Lib.hid (fun w1 (b : Below wr.heap.size wr w1) => rhas_same lj ja jc r.1 w1 ((O.out.went b).reads) (by omega))
            have FC := Lib.hid (fun w1 (bb : Below wr.heap.size wr w1) => FI.out r ra rc lj ja jc w1 (Gr.step X.out.below bb) (Sep.Reads.below h3 (Gr.step X.out.below bb) (Nat.le_refl _)) (by omega) ((O.out.went bb).reads) (by omega))
            have HQ := Lib.hid (six' (W := wr) (b := b) (o := o) (m := j) x0 x1 x2 x3 h1 h2)
            have hbd := drawn wr
            clear h3 h4 h5
            cases hh : decide (r.1 ∈ lj) with
            | true =>
              have E := Lib.hid (RN.out.trans (RI.out (of_decide_eq_true hh)))
              rw [hh] at HC
              clear hh RN RI RO RY
              go_wp2
              go_quiet ((go_at_call 24; exact Calls.quiet_of_same (HC.out _ (drawnN _ _))))
              go_wp2
              go_roundw
              case rel => exact ⟨j + 1, by omega, by go_num, by rw [E.out]; exact O.out.went (drawnN _ _), X.out.went (drawnN _ _)⟩
              case measure => simp [intOf]; omega
            | false =>
              rw [hh] at HC
              cases hf : fineB G r lj with
              | false =>
                have E := Lib.hid (RN.out.trans (RO.out hf))
                rw [hf] at FC
                clear hh hf RN RI RO RY
                go_wp2
                clear x0 x1 x2 x3 h1 h2
                go_region_held3 (fun w' => w'.cell? ⟨w.heap.size, 0, none⟩ = some (.slice a1 G.terms.length c1) ∧ w'.cell? ⟨w.heap.size, 1, none⟩ = some (.slice a2 G.nons.length c2) ∧ w'.cell? ⟨w.heap.size, 2, none⟩ = some (.slice (some ⟨b, o, none⟩) G.rules.length c3) ∧ w'.cell? ⟨w.heap.size, 3, none⟩ = some (.int .i64 G.start) ∧ w'.cell? ⟨b, o + j * 2, none⟩ = some (.int .i64 r.1) ∧ w'.cell? ⟨b, o + j * 2 + 1, none⟩ = some (.slice ra r.2.length rc) ∧ Below wr.heap.size wr w')
                  (exact HQ.out _ (by assumption))
                  (first
                    | (go_at_call 24; refine (HC.out _ hbd).mono ?_; rintro e wn ⟨rfl, hw⟩; subst hw)
                    | (go_at_call 28; refine (FC.out _ hbd).mono ?_; rintro e wn2 ⟨rfl, hb⟩; have l2 : Below wr.heap.size wr wn2 := Gr.step hbd hb; clear hb)
                    | fail)
                go_wp2
                go_roundw
                case rel => exact ⟨j + 1, by omega, by go_num, by rw [E.out]; exact O.out.went l2, X.out.went l2⟩
                case measure => simp [intOf]; omega
              | true =>
                have E := Lib.hid (RN.out.trans (RY.out (of_decide_eq_false hh) hf))
                rw [hf] at FC
                clear hh hf RN RI RO RY
                go_wp2
                clear x0 x1 x2 x3 h1 h2
                go_region_held3 (fun w' => w'.cell? ⟨w.heap.size, 0, none⟩ = some (.slice a1 G.terms.length c1) ∧ w'.cell? ⟨w.heap.size, 1, none⟩ = some (.slice a2 G.nons.length c2) ∧ w'.cell? ⟨w.heap.size, 2, none⟩ = some (.slice (some ⟨b, o, none⟩) G.rules.length c3) ∧ w'.cell? ⟨w.heap.size, 3, none⟩ = some (.int .i64 G.start) ∧ w'.cell? ⟨b, o + j * 2, none⟩ = some (.int .i64 r.1) ∧ w'.cell? ⟨b, o + j * 2 + 1, none⟩ = some (.slice ra r.2.length rc) ∧ Below wr.heap.size wr w')
                  (exact HQ.out _ (by assumption))
                  (first
                    | (go_at_call 24; refine (HC.out _ hbd).mono ?_; rintro e wn ⟨rfl, hw⟩; subst hw)
                    | (go_at_call 28; refine (FC.out _ hbd).mono ?_; rintro e wn2 ⟨rfl, hb⟩; have l2 : Below wr.heap.size wr wn2 := Gr.step hbd hb; clear hb)
                    | fail)
                have O2 := Lib.hid (O.out.went l2)
                have X2 := Lib.hid (X.out.went l2)
                obtain ⟨x0, x1, x2, x3, h1, h2, _⟩ := HQ.out _ l2
                go_wp2_with (at_builtin; refine wpList_append_own _ rfl _ _ 34 rfl (w.heap.size + 1) 3 i0 (.int .i64 0) 1 8 Tryz.underlying34 hi hz0 hz1 hz2 rfl (by decide) _ _ _ rfl (World.ownsRow.alloc O2.out _) ⟨_, 0, none⟩ 1 1 [iv r.1] rfl rfl ?c1 ?c2 ?c3 ?c4 ?c5 ?_)
                case c1 =>
                  intro i u hi
                  match i, hi with
                  | 0, hi => simp at hi; subst hi; simp [Addr.add, iv]
                case c2 => intro u hu; simp at hu; subst hu; rfl
                case c3 => unfold maxLen; omega
                case c4 => omega
                case c5 => have := X2.out.size; simp; omega
                intro v' w3 hown' hgrow _
                have X3 := Lib.hid ((X2.out.alloc _).grown hgrow fun q hq => (World.ownsRow.lt O2.out q hq).1)
                have O3 := Lib.hid (show RowI (w.heap.size + 1) (lj ++ [r.1]) v' w3 by unfold RowI; rw [List.length_append, ivs_snoc]; exact hown')
                clear hown' hgrow x0 x1 x2 x3 h1 h2
                go_wp2
                go_roundw
                case rel => exact ⟨j + 1, by omega, by go_num, by rw [E.out]; exact O3.out, X3.out⟩
                case measure => simp [intOf]; omega
          · have hE : j = G.rules.length := by omega
            subst hE
            have P2 := Lib.hid (P.out.round G.rules.length (Nat.le_refl _))
            obtain ⟨r1, r2⟩ := roundP_len G l G.rules.length (Nat.le_refl _)
            have R1 := Lib.hid r1
            have R2 := Lib.hid r2
            clear r1 r2
            go_wp2
            go_roundg (G.nons.length + 1 - l.length)
            case measure => have := G1.out; omega
            case rel =>
              refine ⟨_, _, rfl, O.out, X.out, P2.out, fun e => ?_, fun e => ?_⟩
              · have e2 : (roundP G l G.rules.length).length = l.length := by omega
                have e3 := (R2.out e2).1
                unfold DoneP
                rw [e3, e3]
              · have := R1.out
                omega
  · have E := Lib.hid (show prodL G = [] by unfold prodL; rw [if_neg hc])
    have hb : (checkN G != 0) = true := by simpa using hc
    clear k hc
    generalize checkN G = ck at *
    unfold gv
    dsimp only
    go_enter Tryz.func12, Tryz.ntmps12
    go_wp2_with (go_at_call 22; refine (C.out _ X.out.below).mono ?_; rintro e w1 ⟨rfl, hb⟩; have X := Lib.hid (X.out.went hb); clear hb)
    go_ret
    rw [E.out]
    exact ⟨none, 0, rfl, .nil _ _, (fun x h => by cases h), X.out.below⟩

end Go.Proofs.YtljblpekpmgmaaaGreatDoor.Lv

namespace Go.Proofs.YtljblpekpmgmaaaGreatDoor.Lv
open Go.RowKit Go.Maps
open Go.Proofs.YtljblpekpmgmaaaGreatDoor.Gr
set_option linter.unusedVariables false

theorem stepR_not {l : List Int} {r : Int × List Int} (h : r.1 ∉ l) : stepR l r = l := by unfold stepR; rw [if_neg h]
theorem stepR_yes {l : List Int} {r : Int × List Int} (h : r.1 ∈ l) : stepR l r = rightR l r.2 r.2.length := by unfold stepR; rw [if_pos h, rightR_all]
def DoneF (G : Gram) (l : List Int) : Prop := (roundR G l G.rules.length).length = l.length
def OutF (W : World) (h : Sh) (G : Gram) (g : Nat) (v n : Value) (w : World) : Prop :=
  ∃ (l : List Int) (m : Int), n = .int .i64 m ∧ RowI (W.heap.size + 1) l v w ∧ Bx W h G w ∧ OkR G l ∧ (m = (l.length : Int) → DoneF G l) ∧ (m ≠ (l.length : Int) → top G + 2 ≤ g + l.length)
def InF (W : World) (h : Sh) (G : Gram) (l0 : List Int) (v i : Value) (w : World) : Prop :=
  ∃ j : Nat, j ≤ G.rules.length ∧ i = .int .i64 j ∧ RowI (W.heap.size + 1) (roundR G l0 j) v w ∧ Bx W h G w
def InF2 (W : World) (h : Sh) (G : Gram) (lj R : List Int) (v i : Value) (w : World) : Prop :=
  ∃ k : Nat, k ≤ R.length ∧ i = .int .i64 k ∧ RowI (W.heap.size + 1) (rightR lj R k) v w ∧ Bx W h G w
theorem int_one (base q : Nat) (x : Int) (w : World) (hq : q = w.heap.size) (hb : base ≤ q) : RowI base [x] (.slice (some ⟨q, 0, none⟩) 1 1) (w.alloc (.cells #[.int .i64 x] 3)) := by
  subst hq
  exact World.ownsRow_lit w #[.int .i64 x] 1 hb (by decide) (by simp)

set_option maxRecDepth 100000 in
set_option maxHeartbeats 16000000 in
theorem rfrom_any (h : Sh) (G : Gram) (w : World) (k : GAt h G w) (hs : Sml G) :
    Calls Tryz.prog 29 #[gv h G] w (Listed (fromL G) w) := by
  obtain ⟨i0, hi, hz0, hz1, hz2⟩ := info_parts info_int
  obtain ⟨a1, c1, a2, c2, a3, c3⟩ := h
  have X := Lib.hid (Bx.start ⟨a1, c1, a2, c2, a3, c3⟩ G w 25)
  obtain ⟨x0, x1, x2, x3⟩ := X.out.box
  try dsimp only at x0 x1 x2 x3
  have SM := Lib.hid hs
  have htop : top G ≤ 240 := by have := hs.t; have := hs.n; unfold top; omega
  have hrl := hs.r
  have hr1 := k.r1
  have SO := Lib.hid (fun l la lc w1 (b : Below w.heap.size w w1) hL hll => rsort_any ⟨a1, c1, a2, c2, a3, c3⟩ G l la lc w1 (k.went b) hL hll (by omega))
  have RU := Lib.hid k.rules
  have X1 := Lib.hid (X.out.went (boxed _ (.cells #[.int .i64 G.start] 3)))
  have S0 := Lib.hid (int_one (w.heap.size + 1) (w.heap.size + 1) G.start (w.alloc (.cells #[.slice a1 G.terms.length c1, .slice a2 G.nons.length c2, .slice a3 G.rules.length c3, .int .i64 G.start] 25)) (by simp) (Nat.le_refl _))
  clear k hs
  unfold gv
  dsimp only
  go_enter Tryz.func29, Tryz.ntmps29
  go_wp2
  clear X x0 x1 x2 x3
  go_loopg [3, 4] (top G + 2) (fun g v n wr => OutF w ⟨a1, c1, a2, c2, a3, c3⟩ G g v n wr)
  case atStart => exact ⟨[G.start], 0, rfl, S0.out, X1.out, OkR.first G, (fun h => by simp at h), fun _ => by simp⟩
  case round =>
    clear X1 S0
    obtain ⟨l, m, rfl, hO, hX, hP, hd, hg⟩ := hrel
    obtain ⟨la, lc, rfl⟩ := Sep.ownsRow_shape hO
    have O := Lib.hid hO
    have X := Lib.hid hX
    have P := Lib.hid hP
    have hll := hP.len SM.out.known
    obtain ⟨x0, x1, x2, x3⟩ := hX.box
    try dsimp only at x0 x1 x2 x3
    clear hO hX hP
    by_cases hm : m = (l.length : Int)
    · have AL := Lib.hid (P.out.all (hd hm))
      have EE := Lib.hid (show sortTo l (top G) = fromL G from sort_sel AL.out _)
      have SC := Lib.hid (SO.out l la lc wr X.out.below O.out.reads (by omega))
      rw [EE.out] at SC
      subst hm
      clear hd hg RU
      go_wp2_with (go_at_call 33; refine SC.out.mono ?_; rintro e w2 ⟨a, c, rfl, hR, hN, hb⟩; have B2 := Lib.hid (Gr.step X.out.below hb); have R2 := Lib.hid hR; have N2 := Lib.hid (show New a w from fun x hx => Nat.le_trans X.out.below.size (hN x hx)); clear hb hR hN)
      go_ret
      exact ⟨a, c, rfl, R2.out, N2.out, B2.out⟩
    · have G1 := Lib.hid (hg hm)
      have hmb : (m != (l.length : Int)) = true := by simpa using hm
      clear hd hg hm
      go_wp2
      clear x0 x1 x2 x3
      go_loopw [3, 5] (fun v i wr => InF w ⟨a1, c1, a2, c2, a3, c3⟩ G l v i wr) (fun _ i _ => G.rules.length - (intOf i).toNat)
      case atStart => exact ⟨0, Nat.zero_le _, rfl, O.out, X.out⟩
      case round =>
        clear O X
        obtain ⟨j, hj, rfl, hO, hX⟩ := hrel
        obtain ⟨ja, jc, rfl⟩ := Sep.ownsRow_shape hO
        have O := Lib.hid hO
        have X := Lib.hid hX
        obtain ⟨x0, x1, x2, x3⟩ := hX.box
        try dsimp only at x0 x1 x2 x3
        clear hO hX
        by_cases hlt : j < G.rules.length
        · obtain ⟨b, o, ra, rc, e, h1, h2, h3, h4, h5⟩ := RU.out j hlt
          try dsimp only at e
          subst e
          have H1 := Lib.hid (fun w1 (bb : Below w.heap.size w w1) => cell_later bb h1)
          have H2 := Lib.hid (fun w1 (bb : Below w.heap.size w w1) => cell_later bb h2)
          have RR := Lib.hid (fun w1 (bb : Below w.heap.size w w1) => Sep.Reads.below h3 bb (Nat.le_refl _))
          have PJ := Lib.hid (P.out.round j hj)
          have RN := Lib.hid (roundR_next (G := G) (l := l) hlt)
          have SN := Lib.hid (stepR_not (l := roundR G l j) (r := G.rules[j]'hlt))
          have SY := Lib.hid (stepR_yes (l := roundR G l j) (r := G.rules[j]'hlt))
          have hw8 := SM.out.w _ (List.getElem_mem hlt)
          have PR := Lib.hid (fun hin k hk => ((P.out.round j hj).right (List.getElem_mem hlt) hin k hk).len SM.out.known)
          have hlj := PJ.out.len SM.out.known
          have HLT := Lib.hid hlt
          generalize G.rules[j] = r at h1 h2 h3 h4 h5 H1 H2 RR RN SN SY PR hw8
          generalize roundR G l j = lj at *
          clear h1 h2 h3 h4 h5 PJ
          by_cases hin : r.1 ∈ lj
          · have E := Lib.hid (RN.out.trans (SY.out hin))
            have MR := Lib.hid (fun k hk => mem_rightR (l := lj) (q := r.2) (y := r.1) (k := k) hk hin)
            have PR2 := Lib.hid (PR.out hin)
            clear hin RN SN SY PR
            go_wp2
            clear x0 x1 x2 x3 hlt
            go_loopw [3, 6] (fun v i wr => InF2 w ⟨a1, c1, a2, c2, some ⟨b, o, none⟩, c3⟩ G lj r.2 v i wr) (fun _ i _ => r.2.length - (intOf i).toNat)
            case atStart => exact ⟨0, Nat.zero_le _, rfl, O.out, X.out⟩
            case round =>
              clear O X
              obtain ⟨k, hk, rfl, hO, hX⟩ := hrel
              obtain ⟨ka, kc, rfl⟩ := Sep.ownsRow_shape hO
              have O := Lib.hid hO
              have X := Lib.hid hX
              obtain ⟨x0, x1, x2, x3⟩ := hX.box
              try dsimp only at x0 x1 x2 x3
              have h1 := H1.out _ hX.below
              have h2 := H2.out _ hX.below
              have hlt := HLT.out
              clear hO hX
              by_cases hlk : k < r.2.length
              · obtain ⟨b2, o2, rfl, hc⟩ := int_at (RR.out _ X.out.below) hlk
                have hlkk := PR2.out k hk
                have RX := Lib.hid (rightR_next (l := lj) (q := r.2) hlk)
                have HL := Lib.hid (rhas_same (rightR lj r.2 k) ka kc r.1 wr O.out.reads (by omega))
                rw [decide_eq_true (MR.out k hk)] at HL
                have HC := Lib.hid (rhas_same (rightR lj r.2 k) ka kc (r.2[k]) wr O.out.reads (by omega))
                have AI := Lib.hid (add_in (l := rightR lj r.2 k) (x := r.2[k]))
                have AN := Lib.hid (add_new (l := rightR lj r.2 k) (x := r.2[k]))
                generalize rightR lj r.2 k = lk at *
                generalize r.2[k] = y at hc RX HC AI AN
                cases hy : decide (y ∈ lk) with
                | true =>
                  have E2 := Lib.hid (RX.out.trans (AI.out (of_decide_eq_true hy)))
                  rw [hy] at HC
                  clear hy RX AI AN
                  go_wp2_with fail
                  refine HL.out.mono ?_
                  rintro e w' ⟨rfl, rfl⟩
                  go_wp2_with fail
                  refine HC.out.mono ?_
                  rintro e w' ⟨rfl, rfl⟩
                  go_wp2
                  go_roundw
                  case rel => exact ⟨k + 1, by omega, by go_num, by rw [E2.out]; exact O.out, X.out⟩
                  case measure => simp [intOf]; omega
                | false =>
                  have E2 := Lib.hid (RX.out.trans (AN.out (of_decide_eq_false hy)))
                  rw [hy] at HC
                  clear hy RX AI AN
                  go_wp2_with fail
                  refine HL.out.mono ?_
                  rintro e w' ⟨rfl, rfl⟩
                  go_wp2_with fail
                  refine HC.out.mono ?_
                  rintro e w' ⟨rfl, rfl⟩
                  go_wp2_with (at_builtin; refine wpList_append_own _ rfl _ _ 34 rfl (w.heap.size + 1) 3 i0 (.int .i64 0) 1 8 Tryz.underlying34 hi hz0 hz1 hz2 rfl (by decide) _ _ _ rfl (World.ownsRow.alloc O.out _) ⟨_, 0, none⟩ 1 1 [iv y] rfl rfl ?c1 ?c2 ?c3 ?c4 ?c5 ?_)
                  case c1 =>
                    intro i u hi
                    match i, hi with
                    | 0, hi => simp at hi; subst hi; simp [Addr.add, iv]
                  case c2 => intro u hu; simp at hu; subst hu; rfl
                  case c3 => unfold maxLen; omega
                  case c4 => omega
                  case c5 => have := X.out.size; simp; omega
                  intro v' w3 hown' hgrow _
                  have X3 := Lib.hid ((X.out.alloc _).grown hgrow fun q hq => (World.ownsRow.lt O.out q hq).1)
                  have O3 := Lib.hid (show RowI (w.heap.size + 1) (lk ++ [y]) v' w3 by unfold RowI; rw [List.length_append, ivs_snoc]; exact hown')
                  clear hown' hgrow x0 x1 x2 x3 h1 h2
                  go_wp2
                  go_roundw
                  case rel => exact ⟨k + 1, by omega, by go_num, by rw [E2.out]; exact O3.out, X3.out⟩
                  case measure => simp [intOf]; omega
              · have hE : k = r.2.length := by omega
                subst hE
                have O2 := Lib.hid (show RowI (w.heap.size + 1) (roundR G l (j + 1)) (.slice ka (rightR lj r.2 r.2.length).length kc) wr by rw [E.out]; exact O.out)
                clear E
                generalize (rightR lj r.2 r.2.length).length = nk at *
                go_wp2
                go_roundw
                case rel => exact ⟨j + 1, by have := HLT.out; omega, by go_num, O2.out, X.out⟩
                case measure => have := HLT.out; simp [intOf]; omega
          · have E := Lib.hid (RN.out.trans (SN.out hin))
            have HD := Lib.hid (decide_eq_false hin)
            clear hin RN SN SY PR
            go_wp2
            clear x0 x1 x2 x3 hlt
            go_loopw [3, 6] (fun v i wr => ∃ v0, v = v0 ∧ i = .int .i64 ((0 : Nat) : Int) ∧ RowI (w.heap.size + 1) lj v wr ∧ Bx w ⟨a1, c1, a2, c2, some ⟨b, o, none⟩, c3⟩ G wr) (fun _ i _ => r.2.length - (intOf i).toNat)
            case atStart => exact ⟨_, rfl, rfl, O.out, X.out⟩
            case round =>
              clear O X
              obtain ⟨v0, rfl, rfl, hO, hX⟩ := hrel
              obtain ⟨ka, kc, rfl⟩ := Sep.ownsRow_shape hO
              have O := Lib.hid hO
              have X := Lib.hid hX
              obtain ⟨x0, x1, x2, x3⟩ := hX.box
              try dsimp only at x0 x1 x2 x3
              have h1 := H1.out _ hX.below
              have h2 := H2.out _ hX.below
              have hlt := HLT.out
              clear hO hX
              by_cases hlk : 0 < r.2.length
              · have HL := Lib.hid (rhas_same lj ka kc r.1 wr O.out.reads (by omega))
                rw [HD.out] at HL
                go_wp2_with fail
                refine HL.out.mono ?_
                rintro e w' ⟨rfl, rfl⟩
                go_wp2
                go_roundw
                case rel => exact ⟨j + 1, by have := HLT.out; omega, by go_num, by rw [E.out]; exact O.out, X.out⟩
                case measure => have := HLT.out; simp [intOf]; omega
              · go_wp2
                go_roundw
                case rel => exact ⟨j + 1, by have := HLT.out; omega, by go_num, by rw [E.out]; exact O.out, X.out⟩
                case measure => have := HLT.out; simp [intOf]; omega
        · have hE : j = G.rules.length := by omega
          subst hE
          have P2 := Lib.hid (P.out.round G.rules.length (Nat.le_refl _))
          obtain ⟨r1, r2⟩ := roundR_len G l G.rules.length (Nat.le_refl _)
          have R1 := Lib.hid r1
          have R2 := Lib.hid r2
          clear r1 r2
          go_wp2
          go_roundg (top G + 1 - l.length)
          case measure => have := G1.out; omega
          case rel =>
            refine ⟨_, _, rfl, O.out, X.out, P2.out, fun e => ?_, fun e => ?_⟩
            · have e2 : (roundR G l G.rules.length).length = l.length := by omega
              have e3 := (R2.out e2).1
              unfold DoneF
              rw [e3, e3]
            · have := R1.out
              omega

set_option maxHeartbeats 4000000 in
theorem rreached_any (h : Sh) (G : Gram) (w : World) (k : GAt h G w) :
    Calls Tryz.prog 14 #[gv h G] w (Listed (rchL G) w) := by
  have X := Lib.hid (Bx.start h G w 25)
  have C := Lib.hid (fun w1 (b : Below w.heap.size w w1) => rcheck_any h G w1 (k.went b))
  obtain ⟨x0, x1, x2, x3⟩ := X.out.box
  by_cases hc : checkN G = 0
  · have F := Lib.hid (fun w1 (b : Below w.heap.size w w1) => rfrom_any h G w1 (k.went b) (sml_of hc))
    have E2 := Lib.hid (show rchL G = fromL G by unfold rchL; rw [if_pos hc])
    rw [hc] at C
    clear k hc
    unfold gv
    go_enter Tryz.func14, Tryz.ntmps14
    go_wp2_with (first
      | (go_at_call 22; refine (C.out _ X.out.below).mono ?_; rintro e w1 ⟨rfl, hb⟩; have X := Lib.hid (X.out.went hb); clear x0 x1 x2 x3; obtain ⟨x0, x1, x2, x3⟩ := X.out.box; clear hb)
      | (go_at_call 29; refine (F.out _ X.out.below).mono ?_; rintro e w2 ⟨a, c, rfl, hR, hN, hb⟩; have R2 := Lib.hid hR; have N2 := Lib.hid (show New a w from fun x hx => Nat.le_trans X.out.below.size (hN x hx)); have B2 := Lib.hid (Gr.step X.out.below hb); clear hb hR hN))
    go_ret
    rw [E2.out]
    exact ⟨a, c, rfl, R2.out, N2.out, B2.out⟩
  · have E := Lib.hid (show rchL G = [] by unfold rchL; rw [if_neg hc])
    have hb : (checkN G != 0) = true := by simpa using hc
    clear k hc
    generalize checkN G = ck at *
    unfold gv
    go_enter Tryz.func14, Tryz.ntmps14
    go_wp2_with (go_at_call 22; refine (C.out _ X.out.below).mono ?_; rintro e w1 ⟨rfl, hb⟩; have X := Lib.hid (X.out.went hb); clear hb)
    go_ret
    rw [E.out]
    exact ⟨none, 0, rfl, .nil _ _, (fun x h => by cases h), X.out.below⟩

end Go.Proofs.YtljblpekpmgmaaaGreatDoor.Lv

namespace Go.Proofs.YtljblpekpmgmaaaGreatDoor.Lv
open Go.RowKit Go.Maps
open Go.Proofs.YtljblpekpmgmaaaGreatDoor.Gr
set_option linter.unusedVariables false

def RtLoop (W : World) (h : Sh) (G : Gram) (pa ra : Option Addr) (i : Value) (w : World) : Prop :=
  ∃ j : Nat, j ≤ top G ∧ i = .int .i64 ((j : Int) + 1) ∧ Bx W h G w ∧ Sep.Reads pa (ivs (prodL G)) w ∧ Sep.Reads ra (ivs (rchL G)) w ∧ NoDead G j

set_option maxRecDepth 100000 in
set_option maxHeartbeats 8000000 in
theorem rtell_any (h : Sh) (G : Gram) (w : World) (k : GAt h G w) :
    Calls Tryz.prog 7 #[gv h G] w (Told (checkL G) w) := by
  have X := Lib.hid (Bx.start h G w 25)
  have C := Lib.hid (fun w1 (b : Below w.heap.size w w1) => rcheck_any h G w1 (k.went b))
  obtain ⟨x0, x1, x2, x3⟩ := X.out.box
  by_cases hc : checkN G = 0
  · have FP := Lib.hid (fun w1 (b : Below w.heap.size w w1) => rproductive_any h G w1 (k.went b))
    have FR := Lib.hid (fun w1 (b : Below w.heap.size w w1) => rreached_any h G w1 (k.went b))
    have T := Lib.hid (fun w1 (b : Below w.heap.size w w1) => rtop_any h G w1 (k.went b))
    have N := Lib.hid (fun s w1 (b : Below w.heap.size w w1) => rnon_any h G s w1 (k.went b))
    have TD := Lib.hid (fun j hj hn hd => tell_dead (G := G) (j := j) hc hj hn hd)
    have TO := Lib.hid (fun hn => tell_ok (G := G) hc hn)
    have DI := Lib.hid (fun s => dead_iff (G := G) (s := s) hc)
    have htop : top G ≤ 240 := by have := (sml_of hc).t; have := (sml_of hc).n; unfold top; omega
    have hp := prodL_len (G := G)
    have hr := rchL_len (G := G)
    rw [hc] at C
    clear k hc
    unfold gv
    go_enter Tryz.func7, Tryz.ntmps7
    go_wp2_with (go_at_call 22; refine (C.out _ X.out.below).mono ?_; rintro e w1 ⟨rfl, hb⟩; have X := Lib.hid (X.out.went hb); clear x0 x1 x2 x3; obtain ⟨x0, x1, x2, x3⟩ := X.out.box; clear hb)
    have HQ := Lib.hid (four x0 x1 x2 x3)
    have hbd := drawn w1
    clear x0 x1 x2 x3
    go_region_held3 (fun w' => w'.cell? ⟨w.heap.size, 0, none⟩ = some (.slice h.a1 G.terms.length h.c1) ∧ w'.cell? ⟨w.heap.size, 1, none⟩ = some (.slice h.a2 G.nons.length h.c2) ∧ w'.cell? ⟨w.heap.size, 2, none⟩ = some (.slice h.a3 G.rules.length h.c3) ∧ w'.cell? ⟨w.heap.size, 3, none⟩ = some (.int .i64 G.start) ∧ Below w1.heap.size w1 w')
      (exact HQ.out _ (by assumption))
      (first
        | (go_at_call 12; refine (FP.out _ (Gr.step X.out.below hbd)).mono ?_; rintro e w2 ⟨pa, pc, rfl, hR1, hN1, hb⟩; have l1 : Below w1.heap.size w1 w2 := Gr.step hbd hb; clear hb hN1)
        | (go_at_call 14; refine (FR.out _ (Gr.step X.out.below l1)).mono ?_; rintro e w3 ⟨ra, rc, rfl, hR2, hN2, hb⟩; have l2 : Below w1.heap.size w1 w3 := Gr.step l1 hb; have hR3 := Sep.Reads.below hR1 hb (Nat.le_refl _); clear hb hN2)
        | fail)
    have X3 := Lib.hid (X.out.went l2)
    have P3 := Lib.hid hR3
    have R3 := Lib.hid hR2
    clear hR1 hR2 hR3 l1 l2 X HQ hbd C FP FR
    go_wp2
    go_loopw [7] (fun i wr => RtLoop w h G pa ra i wr) (fun i _ => (top G + 1) - (intOf i).toNat)
    case atStart => exact ⟨0, Nat.zero_le _, rfl, X3.out, P3.out, R3.out, fun t ht => absurd ht (by omega)⟩
    case round =>
      clear X3 P3 R3
      obtain ⟨j, hj, rfl, hX, hP, hR, hN⟩ := hrel
      have X := Lib.hid hX
      have PR := Lib.hid hP
      have RR := Lib.hid hR
      have ND := Lib.hid hN
      obtain ⟨x0, x1, x2, x3⟩ := hX.box
      clear hX hP hR hN
      by_cases hlt : j < top G
      · have DD := Lib.hid (DI.out ((j : Int) + 1))
        have HR := Lib.hid (fun w1 (b : Below wr.heap.size wr w1) => rhas_same (rchL G) ra rc ((j : Int) + 1) w1 (Sep.Reads.below RR.out b (Nat.le_refl _)) (by omega))
        have HP := Lib.hid (fun w1 (b : Below wr.heap.size wr w1) => rhas_same (prodL G) pa pc ((j : Int) + 1) w1 (Sep.Reads.below PR.out b (Nat.le_refl _)) (by omega))
        have NX := Lib.hid (N.out ((j : Int) + 1))
        go_wp2_with fail
        refine (T.out _ X.out.below).mono ?_
        rintro e w4 ⟨rfl, hb⟩
        have X4 := Lib.hid (X.out.went hb)
        have B4 := Lib.hid hb
        clear hb x0 x1 x2 x3
        obtain ⟨x0, x1, x2, x3⟩ := X4.out.box
        cases hh : decide (((j : Int) + 1) ∈ rchL G) with
        | false =>
          have R := Lib.hid (TD.out j hlt ND.out (DD.out.2 (.inl (of_decide_eq_false hh))))
          rw [hh] at HR
          clear hh
          go_wp2_with fail
          refine (HR.out _ B4.out).mono ?_
          rintro e w5 ⟨rfl, rfl⟩
          go_wp2
          go_ret2
          rw [R.out]
          exact ⟨rfl, X4.out.below⟩
        | true =>
          rw [hh] at HR
          cases hn : nonB G ((j : Int) + 1) with
          | false =>
            have N2 := Lib.hid (noDead_step ND.out fun hd => by
              rcases DD.out.1 hd with h1 | ⟨h1, _⟩
              · exact h1 (of_decide_eq_true hh)
              · rw [hn] at h1; cases h1)
            rw [hn] at NX
            clear hh hn
            go_wp2_with fail
            refine (HR.out _ B4.out).mono ?_
            rintro e w5 ⟨rfl, rfl⟩
            go_wp2_with fail
            refine (NX.out _ X4.out.below).mono ?_
            rintro e w6 ⟨rfl, hb⟩
            have B6 := Lib.hid (Gr.step B4.out hb)
            clear hb
            go_wp2
            go_roundw
            case rel => exact ⟨j + 1, by omega, by go_num, X.out.went B6.out, Sep.Reads.below PR.out B6.out (Nat.le_refl _), Sep.Reads.below RR.out B6.out (Nat.le_refl _), N2.out⟩
            case measure => simp [intOf]; omega
          | true =>
            rw [hn] at NX
            cases hm : decide (((j : Int) + 1) ∈ prodL G) with
            | true =>
              have N2 := Lib.hid (noDead_step ND.out fun hd => by
                rcases DD.out.1 hd with h1 | ⟨_, h1⟩
                · exact h1 (of_decide_eq_true hh)
                · exact h1 (of_decide_eq_true hm))
              rw [hm] at HP
              clear hh hn hm
              go_wp2_with fail
              refine (HR.out _ B4.out).mono ?_
              rintro e w5 ⟨rfl, rfl⟩
              go_wp2_with fail
              refine (NX.out _ X4.out.below).mono ?_
              rintro e w6 ⟨rfl, hb⟩
              have B6 := Lib.hid (Gr.step B4.out hb)
              clear hb
              go_wp2_with fail
              refine (HP.out _ B6.out).mono ?_
              rintro e w7 ⟨rfl, rfl⟩
              go_wp2
              go_roundw
              case rel => exact ⟨j + 1, by omega, by go_num, X.out.went B6.out, Sep.Reads.below PR.out B6.out (Nat.le_refl _), Sep.Reads.below RR.out B6.out (Nat.le_refl _), N2.out⟩
              case measure => simp [intOf]; omega
            | false =>
              have R := Lib.hid (TD.out j hlt ND.out (DD.out.2 (.inr ⟨hn, of_decide_eq_false hm⟩)))
              rw [hm] at HP
              clear hh hn hm
              go_wp2_with fail
              refine (HR.out _ B4.out).mono ?_
              rintro e w5 ⟨rfl, rfl⟩
              go_wp2_with fail
              refine (NX.out _ X4.out.below).mono ?_
              rintro e w6 ⟨rfl, hb⟩
              have B6 := Lib.hid (Gr.step B4.out hb)
              clear hb
              go_wp2_with fail
              refine (HP.out _ B6.out).mono ?_
              rintro e w7 ⟨rfl, rfl⟩
              go_wp2
              go_ret2
              rw [R.out]
              exact ⟨rfl, (X.out.went B6.out).below⟩
      · have hE : j = top G := by omega
        subst hE
        have R := Lib.hid (TO.out ND.out)
        go_wp2_with (go_at_call 23; refine (T.out _ X.out.below).mono ?_; rintro e w4 ⟨rfl, hb⟩; have X4 := Lib.hid (X.out.went hb); clear hb)
        go_ret2
        rw [R.out]
        exact ⟨rfl, X4.out.below⟩
  · have E := Lib.hid (show checkL G = (checkN G, 0) by unfold checkL; rw [if_neg hc])
    have hb : (checkN G != 0) = true := by simpa using hc
    clear k hc
    generalize checkN G = ck at *
    unfold gv
    go_enter Tryz.func7, Tryz.ntmps7
    go_wp2_with (go_at_call 22; refine (C.out _ X.out.below).mono ?_; rintro e w1 ⟨rfl, hb⟩; have X := Lib.hid (X.out.went hb); clear hb)
    go_ret2
    rw [E.out]
    exact ⟨rfl, X.out.below⟩

end Go.Proofs.YtljblpekpmgmaaaGreatDoor.Lv

namespace Go.Proofs.YtljblpekpmgmaaaGreatDoor.Lv
open Go.RowKit Go.Maps
open Go.Proofs.YtljblpekpmgmaaaGreatDoor.Gr
open Go.Proofs.YtljblpekpmgmaaaGreatDoor.Rw (Bk IntsV GRules zg row_shape)
set_option linter.unusedVariables false

structure Os (W : World) (h : Sh) (G : Gram) (bs : Nat) (T N : List ByteArray) (a1 : Option Addr) (c1 : Nat) (a2 : Option Addr) (c2 : Nat) (w : World) : Prop where
  x : Bx W h G w
  z : Bk (W.heap.size + 1) zg 25 w
  v : Bk (W.heap.size + 1 + 1) #[.slice a1 T.length c1, .slice a2 N.length c2, .slice none 0 0, .int .i64 0] 25 w
  t : Strs bs T (.slice a1 T.length c1) w
  n : Strs bs N (.slice a2 N.length c2) w
  ne : ∀ g, (Value.slice a1 T.length c1).ownBlock = some g → (Value.slice a2 N.length c2).ownBlock ≠ some g
  q : W.heap.size + 1 + 1 < bs
  b : bs ≤ w.heap.size
section
variable {W : World} {h : Sh} {G : Gram} {bs : Nat} {T N : List ByteArray} {a1 a2 : Option Addr} {c1 c2 : Nat} {w : World}
/-- Other blocks are written. -/
theorem Os.fr (k : Os W h G bs T N a1 c1 a2 c2 w) {S : Nat → Prop} {w' : World} (hF : Sep.Fr S w w') (h0 : ∀ i, S i → W.heap.size < i) (h1 : ¬ S (W.heap.size + 1)) (h2 : ¬ S (W.heap.size + 1 + 1))
    (h4 : ∀ g, (Value.slice a1 T.length c1).ownBlock = some g → ¬ S g) (h5 : ∀ g, (Value.slice a2 N.length c2).ownBlock = some g → ¬ S g) : Os W h G bs T N a1 c1 a2 c2 w' :=
  ⟨bx_fr k.x hF h0, k.z.fr hF h1, k.v.fr hF h2, Sep.ownsRow_at k.t fun g hg => hF.block g (k.t.lt g hg).2 (h4 g hg), Sep.ownsRow_at k.n fun g hg => hF.block g (k.n.lt g hg).2 (h5 g hg), k.ne, k.q, Nat.le_trans k.b hF.size⟩
theorem Os.went (k : Os W h G bs T N a1 c1 a2 c2 w) {w' : World} (hb : Below w.heap.size w w') : Os W h G bs T N a1 c1 a2 c2 w' :=
  k.fr (S := fun _ => False) (Sep.Fr.of_below hb) (fun _ h => h.elim) id id (fun _ _ => id) (fun _ _ => id)
/-- A terminal's name more. -/
theorem Os.putT (k : Os W h G bs T N a1 c1 a2 c2 w) {x : ByteArray} {w3 w4 : World} {a4 : Option Addr} {c4 : Nat} (hb : Below w.heap.size w w3)
    (hown : w4.ownsRow bs 9 1 (.slice a4 (T.length + 1) c4) (T.length + 1) (T.map .string ++ [.string x])) (hg : (w3.alloc (.cells #[.string x] 9)).grownBy w4 (Value.slice a1 T.length c1).ownBlock)
    (hl : (Value.slice a4 (T.length + 1) c4).ownBlock = (Value.slice a1 T.length c1).ownBlock ∨ (Value.slice a4 (T.length + 1) c4).ownBlock = some (w3.alloc (.cells #[.string x] 9)).heap.size) :
    Os W h G bs (T ++ [x]) N a4 c4 a2 c2 (w4.setCell ⟨W.heap.size + 1 + 1, 0, none⟩ (.slice a4 (T.length + 1) c4)) := by
  have b3 := Gr.step hb (boxed w3 (.cells #[.string x] 9))
  have hq := k.q
  have hF : Sep.Fr (fun i => (Value.slice a1 T.length c1).ownBlock = some i) w w4 := (Sep.Fr.of_below b3).grown hg fun i hi => .inl hi
  have hF2 : Sep.Fr (fun i => i = W.heap.size + 1 + 1) w4 (w4.setCell ⟨W.heap.size + 1 + 1, 0, none⟩ (.slice a4 (T.length + 1) c4)) := (Sep.Fr.refl (fun k => k = W.heap.size + 1 + 1) w4).setCell ⟨W.heap.size + 1 + 1, 0, none⟩ rfl _
  have lo : ∀ i, (Value.slice a1 T.length c1).ownBlock = some i → bs ≤ i := fun i hi => (k.t.lt i hi).1
  have n4 : Strs bs N (.slice a2 N.length c2) w4 := Sep.ownsRow_at k.n fun g hg => hF.block g (k.n.lt g hg).2 fun e => k.ne g e hg
  have hlen : (T ++ [x]).length = T.length + 1 := by simp
  have v5 := ((k.v.fr hF fun e => by have := lo _ e; omega).set (j := 0) (by simp) (.slice a4 (T.length + 1) c4))
  refine ⟨bx_fr (bx_fr k.x hF fun i hi => by have := lo i hi; omega) hF2 fun i hi => by omega, (k.z.fr hF fun e => by have := lo _ e; omega).fr hF2 (by omega), by rw [hlen]; exact v5, ?_, Sep.ownsRow_at n4 fun g hg => hF2.block g (n4.lt g hg).2 (by have := (n4.lt g hg).1; omega), fun g hg e => ?_, k.q, Nat.le_trans k.b (Nat.le_trans hF.size hF2.size)⟩
  · have h1 : Strs bs (T ++ [x]) (.slice a4 (T ++ [x]).length c4) w4 := by
      unfold Strs
      rw [hlen, List.map_append]
      exact hown
    exact Sep.ownsRow_at h1 fun g hg => hF2.block g (h1.lt g hg).2 (by have := (h1.lt g hg).1; omega)
  · rw [hlen] at hg
    rcases hl with h5 | h5
    · exact k.ne g (h5.symm.trans hg) e
    · rw [h5] at hg
      injection hg with hg
      have := (k.n.lt g e).2
      have := b3.size
      omega
/-- A nonterminal's name more. -/
theorem Os.putN (k : Os W h G bs T N a1 c1 a2 c2 w) {x : ByteArray} {w3 w4 : World} {a4 : Option Addr} {c4 : Nat} (hb : Below w.heap.size w w3)
    (hown : w4.ownsRow bs 9 1 (.slice a4 (N.length + 1) c4) (N.length + 1) (N.map .string ++ [.string x])) (hg : (w3.alloc (.cells #[.string x] 9)).grownBy w4 (Value.slice a2 N.length c2).ownBlock)
    (hl : (Value.slice a4 (N.length + 1) c4).ownBlock = (Value.slice a2 N.length c2).ownBlock ∨ (Value.slice a4 (N.length + 1) c4).ownBlock = some (w3.alloc (.cells #[.string x] 9)).heap.size) :
    Os W h G bs T (N ++ [x]) a1 c1 a4 c4 (w4.setCell ⟨W.heap.size + 1 + 1, 1, none⟩ (.slice a4 (N.length + 1) c4)) := by
  have b3 := Gr.step hb (boxed w3 (.cells #[.string x] 9))
  have hq := k.q
  have hF : Sep.Fr (fun i => (Value.slice a2 N.length c2).ownBlock = some i) w w4 := (Sep.Fr.of_below b3).grown hg fun i hi => .inl hi
  have hF2 : Sep.Fr (fun i => i = W.heap.size + 1 + 1) w4 (w4.setCell ⟨W.heap.size + 1 + 1, 1, none⟩ (.slice a4 (N.length + 1) c4)) := (Sep.Fr.refl (fun k => k = W.heap.size + 1 + 1) w4).setCell ⟨W.heap.size + 1 + 1, 1, none⟩ rfl _
  have lo : ∀ i, (Value.slice a2 N.length c2).ownBlock = some i → bs ≤ i := fun i hi => (k.n.lt i hi).1
  have t4 : Strs bs T (.slice a1 T.length c1) w4 := Sep.ownsRow_at k.t fun g hg => hF.block g (k.t.lt g hg).2 fun e => k.ne g hg e
  have hlen : (N ++ [x]).length = N.length + 1 := by simp
  have v5 := ((k.v.fr hF fun e => by have := lo _ e; omega).set (j := 1) (by simp) (.slice a4 (N.length + 1) c4))
  refine ⟨bx_fr (bx_fr k.x hF fun i hi => by have := lo i hi; omega) hF2 fun i hi => by omega, (k.z.fr hF fun e => by have := lo _ e; omega).fr hF2 (by omega), by rw [hlen]; exact v5, Sep.ownsRow_at t4 fun g hg => hF2.block g (t4.lt g hg).2 (by have := (t4.lt g hg).1; omega), ?_, fun g hg e => ?_, k.q, Nat.le_trans k.b (Nat.le_trans hF.size hF2.size)⟩
  · have h1 : Strs bs (N ++ [x]) (.slice a4 (N ++ [x]).length c4) w4 := by
      unfold Strs
      rw [hlen, List.map_append]
      exact hown
    exact Sep.ownsRow_at h1 fun g hg => hF2.block g (h1.lt g hg).2 (by have := (h1.lt g hg).1; omega)
  · rw [hlen] at e
    rcases hl with h5 | h5
    · exact k.ne g hg (h5.symm.trans e)
    · rw [h5] at e
      injection e with e
      have := (k.t.lt g hg).2
      have := b3.size
      omega
end

/-- Loop 2: the rules so far. -/
structure Os2 (W : World) (h : Sh) (G : Gram) (bs : Nat) (T N : List ByteArray) (a1 : Option Addr) (c1 : Nat) (a2 : Option Addr) (c2 : Nat) (base : Nat) (X : List (Int × List Int)) (rv : Value) (st : Int) (w : World) : Prop where
  x : Bx W h G w
  z : Bk (W.heap.size + 1) zg 25 w
  v : Bk (W.heap.size + 1 + 1) #[.slice a1 T.length c1, .slice a2 N.length c2, rv, .int .i64 st] 25 w
  t : Strs bs T (.slice a1 T.length c1) w
  n : Strs bs N (.slice a2 N.length c2) w
  r : GRules base X rv w
  q : W.heap.size + 1 + 1 < bs
  tb : ∀ g, (Value.slice a1 T.length c1).ownBlock = some g → g < base
  nb : ∀ g, (Value.slice a2 N.length c2).ownBlock = some g → g < base
  qb : bs ≤ base
  bw : base ≤ w.heap.size
section
variable {W : World} {h : Sh} {G : Gram} {bs : Nat} {T N : List ByteArray} {a1 a2 : Option Addr} {c1 c2 base : Nat} {X : List (Int × List Int)} {v : Value} {st : Int} {w : World}
theorem Os2.start (k : Os W h G bs T N a1 c1 a2 c2 w) : Os2 W h G bs T N a1 c1 a2 c2 w.heap.size [] (.slice none 0 0) 0 w :=
  ⟨k.x, k.z, k.v, k.t, k.n, GRules.nil _ _, k.q, fun g hg => (k.t.lt g hg).2, fun g hg => (k.n.lt g hg).2, k.b, Nat.le_refl _⟩
theorem Os2.went (k : Os2 W h G bs T N a1 c1 a2 c2 base X v st w) {w' : World} (hb : Below w.heap.size w w') : Os2 W h G bs T N a1 c1 a2 c2 base X v st w' :=
  ⟨k.x.went hb, k.z.went hb, k.v.went hb, Sep.ownsRow_at k.t fun g hg => hb.block g (k.t.lt g hg).2, Sep.ownsRow_at k.n fun g hg => hb.block g (k.n.lt g hg).2, k.r.went hb, k.q, k.tb, k.nb, k.qb, Nat.le_trans k.bw hb.size⟩
/-- A rule more. -/
theorem Os2.put (k : Os2 W h G bs T N a1 c1 a2 c2 base X v st w) {w3 w4 : World} {d : Int × List Int} {nv : Value} {a4 : Option Addr} {n4 c4 : Nat} (hb : Below w.heap.size w w3) (hr : ∀ g, v.ownBlock = some g → base ≤ g)
    (hg : (w3.alloc (.cells #[.int .i64 d.1, nv] 39)).grownBy w4 v.ownBlock) (hG : GRules base (X ++ [d]) (.slice a4 n4 c4) w4) :
    Os2 W h G bs T N a1 c1 a2 c2 base (X ++ [d]) (.slice a4 n4 c4) st (w4.setCell ⟨W.heap.size + 1 + 1, 2, none⟩ (.slice a4 n4 c4)) := by
  have b3 := Gr.step hb (boxed w3 (.cells #[.int .i64 d.1, nv] 39))
  have hq := k.q
  have hqb := k.qb
  have hF : Sep.Fr (fun i => v.ownBlock = some i) w w4 := (Sep.Fr.of_below b3).grown hg fun i hi => .inl hi
  have hF2 : Sep.Fr (fun i => i = W.heap.size + 1 + 1) w4 (w4.setCell ⟨W.heap.size + 1 + 1, 2, none⟩ (.slice a4 n4 c4)) := (Sep.Fr.refl (fun k => k = W.heap.size + 1 + 1) w4).setCell ⟨W.heap.size + 1 + 1, 2, none⟩ rfl _
  have t4 : Strs bs T (.slice a1 T.length c1) w4 := Sep.ownsRow_at k.t fun g hg => hF.block g (k.t.lt g hg).2 fun e => by have := hr g e; have := k.tb g hg; omega
  have n4' : Strs bs N (.slice a2 N.length c2) w4 := Sep.ownsRow_at k.n fun g hg => hF.block g (k.n.lt g hg).2 fun e => by have := hr g e; have := k.nb g hg; omega
  exact ⟨bx_fr (bx_fr k.x hF fun i hi => by have := hr i hi; omega) hF2 fun i hi => by omega, (k.z.fr hF fun e => by have := hr _ e; omega).fr hF2 (by omega), (k.v.fr hF fun e => by have := hr _ e; omega).set (j := 2) (by simp) _,
    Sep.ownsRow_at t4 fun g hg => hF2.block g (t4.lt g hg).2 (by have := (t4.lt g hg).1; omega), Sep.ownsRow_at n4' fun g hg => hF2.block g (n4'.lt g hg).2 (by have := (n4'.lt g hg).1; omega),
    hG.set _ _ (show W.heap.size + 1 + 1 < base by omega), k.q, k.tb, k.nb, k.qb, Nat.le_trans k.bw (Nat.le_trans hF.size hF2.size)⟩
end


theorem nextT {G : Gram} {l : List Int} {j : Nat} (hj : j < l.length) (h : termB G l[j] = true) : tnL G (l.take (j + 1)) = tnL G (l.take j) ++ [nameS G l[j]] ∧ nnL G (l.take (j + 1)) = nnL G (l.take j) := by
  rw [List.take_succ_eq_append_getElem hj]
  exact tn_snoc h
theorem nextN {G : Gram} {l : List Int} {j : Nat} (hj : j < l.length) (h : termB G l[j] = false) : tnL G (l.take (j + 1)) = tnL G (l.take j) ∧ nnL G (l.take (j + 1)) = nnL G (l.take j) ++ [nameS G l[j]] := by
  rw [List.take_succ_eq_append_getElem hj]
  exact nn_snoc h

set_option maxHeartbeats 2000000 in
theorem rplace_same (L : List Int) (a : Option Addr) (c : Nat) (s : Int) (w : World) (hA : Sep.Reads a (ivs L) w) (hl : L.length ≤ 100000) :
    Calls Tryz.prog 62 #[.slice a L.length c, .int .i64 s] w fun e w' => e = .returned (.int .i64 (pos L s)) ∧ w' = w := by
  have HA := Lib.hid hA
  clear hA
  go_enter Tryz.func62, Tryz.ntmps62
  go_wp2
  go_loop [5] (fun i => ∃ k : Nat, k ≤ L.length ∧ i = .int .i64 k ∧ Nope s L k) (fun i => L.length - (intOf i).toNat)
  case atStart => exact ⟨0, Nat.zero_le _, rfl, nope_zero _ _⟩
  case round =>
    obtain ⟨k, hk, rfl, hN⟩ := hrel
    have N := Lib.hid hN
    clear hN
    by_cases hlt : k < L.length
    · obtain ⟨b, o, rfl, hc⟩ := int_at HA.out hlt
      have NS := Lib.hid (fun he => nope_step N.out hlt he)
      have NF := Lib.hid (fun he => pos_first N.out hlt he)
      generalize L[k] = x at hc NS NF
      by_cases hx : x = s
      · have M := Lib.hid (NF.out hx)
        subst hx
        go_wp2
        go_ret
        exact ⟨int_of M.out, rfl⟩
      · have N2 := Lib.hid (NS.out hx)
        have hb : (x == s) = false := by simpa using hx
        clear hx
        go_wp2
        go_round
        case rel => exact ⟨k + 1, by omega, by go_num, N2.out⟩
        case measure => simp [intOf]; omega
    · have M := Lib.hid (pos_out (nope_end N.out hlt))
      go_wp2
      go_ret
      exact ⟨int_of M.out, rfl⟩

end Go.Proofs.YtljblpekpmgmaaaGreatDoor.Lv

namespace Go.Proofs.YtljblpekpmgmaaaGreatDoor.Lv
open Go.RowKit Go.Maps
open Go.Proofs.YtljblpekpmgmaaaGreatDoor.Gr
open Go.Proofs.YtljblpekpmgmaaaGreatDoor.Rw (Bk IntsV GRules zg row_shape gc step_append_rows wpList_append_rows info_rule2 rule2_one)
set_option linter.unusedVariables false
set_option linter.unusedSimpArgs false

section
variable {W : World} {h : Sh} {G : Gram} {bs : Nat} {T N : List ByteArray} {a1 a2 : Option Addr} {c1 c2 base : Nat} {X : List (Int × List Int)} {v : Value} {st : Int} {w : World}
theorem Os2.begun (k : Os2 W h G bs T N a1 c1 a2 c2 base X v st w) (s : Int) : Os2 W h G bs T N a1 c1 a2 c2 base X v s (w.setCell ⟨W.heap.size + 1 + 1, 3, none⟩ (.int .i64 s)) := by
  have hq := k.q
  have hqb := k.qb
  have hF : Sep.Fr (fun i => i = W.heap.size + 1 + 1) w (w.setCell ⟨W.heap.size + 1 + 1, 3, none⟩ (.int .i64 s)) := (Sep.Fr.refl (fun k => k = W.heap.size + 1 + 1) w).setCell ⟨W.heap.size + 1 + 1, 3, none⟩ rfl _
  exact ⟨bx_fr k.x hF fun i hi => by omega, k.z.fr hF (by omega), k.v.set (j := 3) (by simp) _, Sep.ownsRow_at k.t fun g hg => hF.block g (k.t.lt g hg).2 (by have := (k.t.lt g hg).1; omega), Sep.ownsRow_at k.n fun g hg => hF.block g (k.n.lt g hg).2 (by have := (k.n.lt g hg).1; omega),
    k.r.set _ _ (show W.heap.size + 1 + 1 < base by omega), k.q, k.tb, k.nb, k.qb, Nat.le_trans k.bw hF.size⟩
end
theorem Os2.gnew {W : World} {h : Sh} {G : Gram} {l : List Int} {bs : Nat} {a1 a2 av : Option Addr} {c1 c2 cv base n : Nat} {st : Int} {w : World} (k : Os2 W h G bs (tnL G l) (nnL G l) a1 c1 a2 c2 base (rulesTo G l G.rules.length) (.slice av n cv) st w)
    (hG : GOk G) (hs : Sml G) (hl : l.length ≤ 240) : n = (onlyG G l).rules.length ∧ GNew (W.heap.size + 1 + 1 + 1) ⟨a1, c1, a2, c2, av, cv⟩ (onlyG G l) w := by
  have hr := k.r
  rw [rulesTo_end] at hr
  obtain ⟨a', c', e, hc⟩ := hr.len
  simp only [Value.slice.injEq] at e
  obtain ⟨rfl, rfl, rfl⟩ := e
  refine ⟨rfl, fun w'' hsz hb => ?_⟩
  have hq := k.q
  have hqb := k.qb
  have htn := tn_len G l
  have t2 := Sep.ownsRow_at k.t (w' := w'') fun g hg => hb g (by have := (k.t.lt g hg).1; omega) (k.t.lt g hg).2
  have n2 := Sep.ownsRow_at k.n (w' := w'') fun g hg => hb g (by have := (k.n.lt g hg).1; omega) (k.n.lt g hg).2
  have r2 : GRules base (onlyG G l).rules (.slice av (onlyG G l).rules.length cv) w'' := by
    obtain ⟨L, h1, h2, h3, h4⟩ := hr
    exact ⟨L, h1, Sep.ownsRow_at h2 fun g hg => hb g (by have := (h2.lt g hg).1; omega) (h2.lt g hg).2, fun x hx => (h3 x hx).at fun g hg => hb g (by have := (World.ownsRow.lt (h3 x hx) g hg).1; omega) (World.ownsRow.lt (h3 x hx) g hg).2, h4⟩
  have hw : ∀ r ∈ (onlyG G l).rules, r.2.length ≤ 10000 := by rw [← rulesTo_end]; exact rulesTo_w hs _
  have hrl : (onlyG G l).rules.length ≤ G.rules.length := by rw [← rulesTo_end]; exact rulesTo_le _ _ _
  have hrr := hs.r
  have e1 : (onlyG G l).terms = tnL G l := rfl
  have e2 : (onlyG G l).nons = nnL G l := rfl
  exact ⟨by rw [e1]; exact Sep.Reads.of_row t2, by rw [e2]; exact Sep.Reads.of_row n2, Rw.GRules.at r2 hw, by rw [e1]; exact row_cap t2, by rw [e1]; omega, by rw [e2]; omega, hc, by omega, only_ok hG (by omega)⟩

theorem eqs {P : Program} {f : FuncId} {args : Array Value} {w : World} {v : Value} (h : Calls P f args w fun e w' => e = .returned v ∧ w' = w) : Calls P f args w fun e w' => e = .returned v ∧ w = w' := h.mono fun _ _ ⟨h1, h2⟩ => ⟨h1, h2.symm⟩
theorem ivs_append (l m : List Int) : ivs (l ++ m) = ivs l ++ ivs m := List.map_append ..
def OsLoop (W : World) (h : Sh) (G : Gram) (l : List Int) (i : Value) (w : World) : Prop :=
  ∃ (j : Nat) (a1 : Option Addr) (c1 : Nat) (a2 : Option Addr) (c2 : Nat), j ≤ l.length ∧ i = .int .i64 j ∧ Os W h G (W.heap.size + 1 + 1 + 1) (tnL G (l.take j)) (nnL G (l.take j)) a1 c1 a2 c2 w
def OsLoop2 (W : World) (h : Sh) (G : Gram) (l : List Int) (a1 : Option Addr) (c1 : Nat) (a2 : Option Addr) (c2 : Nat) (base : Nat) (i : Value) (w : World) : Prop :=
  ∃ (j : Nat) (v : Value), j ≤ G.rules.length ∧ i = .int .i64 j ∧ Os2 W h G (W.heap.size + 1 + 1 + 1) (tnL G l) (nnL G l) a1 c1 a2 c2 base (rulesTo G l j) v (pos l G.start) w
def OsLoop3 (W : World) (l R : List Int) (p : Int) (i : Value) (w : World) : Prop :=
  ∃ (k : Nat) (v : Value), k ≤ R.length ∧ i = .int .i64 k ∧ Bk W.heap.size #[.int .i64 p, v] 39 w ∧ RowI (W.heap.size + 1) ((R.take k).map (pos l)) v w ∧ Below W.heap.size W w

set_option maxRecDepth 100000 in
set_option maxHeartbeats 16000000 in
theorem ronly_any (h : Sh) (G : Gram) (l : List Int) (la : Option Addr) (lc : Nat) (w : World) (k : GAt h G w) (hs : Sml G) (hL : Sep.Reads la (ivs l) w) (hll : l.length ≤ 240) :
    Calls Tryz.prog 30 #[gv h G, .slice la l.length lc] w (NewG (onlyG G l) w) := by
  obtain ⟨i0, hii, hz0, hz1, hz2⟩ := info_parts info_string
  obtain ⟨j0, hj0, jz0, jz1, jz2⟩ := info_parts info_rule2
  obtain ⟨n0, hn0, nz0, nz1, nz2⟩ := info_parts info_int
  obtain ⟨a3', c3', a5', c5', a6', c6'⟩ := h
  have b1 := boxed (w.alloc (.cells #[.slice a3' G.terms.length c3', .slice a5' G.nons.length c5', .slice a6' G.rules.length c6', .int .i64 G.start] 25)) (.cells zg 25)
  have b2 := boxed ((w.alloc (.cells #[.slice a3' G.terms.length c3', .slice a5' G.nons.length c5', .slice a6' G.rules.length c6', .int .i64 G.start] 25)).alloc (.cells zg 25)) (.cells zg 25)
  have O0 := Lib.hid (show Os w ⟨a3', c3', a5', c5', a6', c6'⟩ G (w.heap.size + 1 + 1 + 1) (tnL G (l.take 0)) (nnL G (l.take 0)) none 0 none 0 (((w.alloc (.cells #[.slice a3' G.terms.length c3', .slice a5' G.nons.length c5', .slice a6' G.rules.length c6', .int .i64 G.start] 25)).alloc (.cells zg 25)).alloc (.cells zg 25)) from
    ⟨(Bx.start ⟨a3', c3', a5', c5', a6', c6'⟩ G w 25).went (Gr.step b1 b2), (Bk.new (w.alloc (.cells #[.slice a3' G.terms.length c3', .slice a5' G.nons.length c5', .slice a6' G.rules.length c6', .int .i64 G.start] 25)) zg 25 (w.heap.size + 1) (by simp)).went b2,
      Bk.new ((w.alloc (.cells #[.slice a3' G.terms.length c3', .slice a5' G.nons.length c5', .slice a6' G.rules.length c6', .int .i64 G.start] 25)).alloc (.cells zg 25)) zg 25 (w.heap.size + 1 + 1) (by simp), World.ownsRow_nil _ _ _ _, World.ownsRow_nil _ _ _ _, (fun g hg => by cases hg), by omega, by simp⟩)
  have TM := Lib.hid (fun s w1 (b : Below w.heap.size w w1) => rterm_any ⟨a3', c3', a5', c5', a6', c6'⟩ G s w1 (k.went b))
  have NM := Lib.hid (fun s w1 (b : Below w.heap.size w w1) => rname_any ⟨a3', c3', a5', c5', a6', c6'⟩ G s w1 (k.went b) (by have := hs.t; have := hs.n; omega))
  have LR := Lib.hid (fun w1 (b : Below w.heap.size w w1) => Sep.Reads.below hL b (Nat.le_refl _))
  have SM := Lib.hid hs
  have KG := Lib.hid k
  have hr := hs.r
  clear k hs hL b1 b2
  unfold gv
  dsimp only
  go_enter Tryz.func30, Tryz.ntmps30
  go_wp2
  go_loopw [6] (fun i wr => OsLoop w ⟨a3', c3', a5', c5', a6', c6'⟩ G l i wr) (fun i _ => l.length - (intOf i).toNat)
  case atStart => exact ⟨0, none, 0, none, 0, Nat.zero_le _, rfl, O0.out⟩
  case round =>
    clear O0
    obtain ⟨j, a1, c1, a2, c2, hj, rfl, hO⟩ := hrel
    have O := Lib.hid hO
    obtain ⟨x0, x1, x2, x3⟩ := hO.x.box
    try dsimp only at x0 x1 x2 x3
    clear hO
    by_cases hlt : j < l.length
    · obtain ⟨lb, lo, rfl, hc⟩ := int_at (LR.out _ O.out.x.below) hlt
      have htl := tn_len G (l.take j)
      have htk : (l.take j).length ≤ j := List.length_take_le _ _
      have NT := Lib.hid (nextT (G := G) hlt)
      have NN := Lib.hid (nextN (G := G) hlt)
      have TX := Lib.hid (TM.out l[j])
      have NX := Lib.hid (NM.out l[j])
      generalize hTT : tnL G (l.take j) = TT0 at *
      generalize hNN : nnL G (l.take j) = NN0 at *
      have HTT := Lib.hid hTT
      have HNN := Lib.hid hNN
      clear hTT hNN
      generalize l[j] = x at hc NT NN TX NX
      generalize nameS G x = nm at *
      have hbd := drawn wr
      have HQ := Lib.hid (five x0 x1 x2 x3 hc)
      cases ht : termB G x with
      | true =>
        obtain ⟨e1, e2⟩ := NT.out ht
        rw [ht] at TX
        have E1 := Lib.hid e1
        have E2 := Lib.hid e2
        clear ht e1 e2 NT NN
        go_wp2
        clear x0 x1 x2 x3 hc
        go_region_held3 (fun w' => w'.cell? ⟨w.heap.size, 0, none⟩ = some (.slice a3' G.terms.length c3') ∧ w'.cell? ⟨w.heap.size, 1, none⟩ = some (.slice a5' G.nons.length c5') ∧ w'.cell? ⟨w.heap.size, 2, none⟩ = some (.slice a6' G.rules.length c6') ∧ w'.cell? ⟨w.heap.size, 3, none⟩ = some (.int .i64 G.start) ∧ w'.cell? ⟨lb, lo + j, none⟩ = some (.int .i64 x) ∧ Below wr.heap.size wr w')
          (exact HQ.out _ (by assumption))
          (first
            | (go_at_call 60; refine (TX.out _ (Gr.step O.out.x.below hbd)).mono ?_; rintro e w6 ⟨rfl, hb⟩; have kT : Below wr.heap.size wr w6 := Gr.step hbd hb; clear hb)
            | fail)
        have O6 := Lib.hid (O.out.went kT)
        obtain ⟨x0, x1, x2, x3, hc, _⟩ := HQ.out _ kT
        have HQ6 := Lib.hid (fun w1 (b : Below w6.heap.size w6 w1) => HQ.out _ (Gr.step kT b))
        have hbd6 := drawn w6
        clear hbd kT
        go_wp2
        obtain ⟨y0, y1, y2, y3, yf⟩ := O6.out.v.four
        have hq6 : w.heap.size + 1 + 1 < w6.heap.size := O6.out.v.lt
        have hx6 : w.heap.size < w6.heap.size := by omega
        have hb6 := O6.out.b
        have NC6 := Lib.hid (fun w1 (b : Below w6.heap.size w6 w1) => NX.out w1 (Gr.step O6.out.x.below b))
        go_region_law (first
          | (refine step_append_rows _ (by rfl) _ _ 22 (by rfl) (w.heap.size + 1 + 1 + 1) 9 i0 (.string ByteArray.empty) 1 16 Tryz.underlying22 hii hz0 hz1 hz2 rfl (by decide) (.slice a1 TT0.length c1) TT0.length (TT0.map .string) (by rfl) (Sep.ownsRow_at O6.out.t fun g hg => (Gr.step kB (Gr.boxed _ _)).block g (O6.out.t.lt g hg).2) _ (.slice (some ⟨w3.heap.size, 0, none⟩) 1 1) 1 [.string nm] (by rfl) (str_one (w.heap.size + 1 + 1 + 1) w3.heap.size nm w3 rfl (by omega)) (by simp [Value.oneCell']) (by unfold maxLen; omega) (by omega) (by first | (simp; done) | (simp; omega)) ?_; intro v4 w4 hown4 hg4 hloc4; obtain ⟨a4, c4, rfl⟩ := row_shape hown4; have O4 := Lib.hid (O6.out.putT kB hown4 hg4 hloc4); have V4 := Lib.hid (((O6.out.v.went kB).went (Gr.boxed w3 (.cells #[.string nm] 9))).grown hg4 (fun k hk => by have := (O6.out.t.lt k hk).1; omega)); obtain ⟨y0, y1, y2, y3, yf⟩ := V4.out.four; have hq4 : w.heap.size + 1 + 1 < w4.heap.size := V4.out.lt; clear hown4 hg4 hloc4)
          | (go_simp; go_at_call 61; (with_reducible refine (NC6.out _ (by assumption)).mono ?_); rintro e w3 ⟨rfl, hb⟩; have kB : Below w6.heap.size w6 w3 := Gr.step (by assumption) hb; obtain ⟨y0, y1, y2, y3, yf⟩ := (O6.out.v.went kB).four; obtain ⟨x0, x1, x2, x3, hc, _⟩ := HQ6.out _ kB; have hs3 : w6.heap.size ≤ w3.heap.size := kB.size; have hq3 : w.heap.size + 1 + 1 < w3.heap.size := (O6.out.v.went kB).lt; have hx3 : w.heap.size < w3.heap.size := (by omega); clear hb))
        all_goals
          go_wp2
          go_roundw
          case rel => exact ⟨j + 1, _, _, _, _, by omega, by go_num, by rw [E1.out, E2.out]; exact O4.out⟩
          case measure => simp [intOf]; omega
      | false =>
        obtain ⟨e1, e2⟩ := NN.out ht
        rw [ht] at TX
        have E1 := Lib.hid e1
        have E2 := Lib.hid e2
        clear ht e1 e2 NT NN
        go_wp2
        clear x0 x1 x2 x3 hc
        go_region_held3 (fun w' => w'.cell? ⟨w.heap.size, 0, none⟩ = some (.slice a3' G.terms.length c3') ∧ w'.cell? ⟨w.heap.size, 1, none⟩ = some (.slice a5' G.nons.length c5') ∧ w'.cell? ⟨w.heap.size, 2, none⟩ = some (.slice a6' G.rules.length c6') ∧ w'.cell? ⟨w.heap.size, 3, none⟩ = some (.int .i64 G.start) ∧ w'.cell? ⟨lb, lo + j, none⟩ = some (.int .i64 x) ∧ Below wr.heap.size wr w')
          (exact HQ.out _ (by assumption))
          (first
            | (go_at_call 60; refine (TX.out _ (Gr.step O.out.x.below hbd)).mono ?_; rintro e w6 ⟨rfl, hb⟩; have kT : Below wr.heap.size wr w6 := Gr.step hbd hb; clear hb)
            | fail)
        have O6 := Lib.hid (O.out.went kT)
        obtain ⟨x0, x1, x2, x3, hc, _⟩ := HQ.out _ kT
        have HQ6 := Lib.hid (fun w1 (b : Below w6.heap.size w6 w1) => HQ.out _ (Gr.step kT b))
        have hbd6 := drawn w6
        clear hbd kT
        go_wp2
        obtain ⟨y0, y1, y2, y3, yf⟩ := O6.out.v.four
        have hq6 : w.heap.size + 1 + 1 < w6.heap.size := O6.out.v.lt
        have hx6 : w.heap.size < w6.heap.size := by omega
        have hb6 := O6.out.b
        have NC6 := Lib.hid (fun w1 (b : Below w6.heap.size w6 w1) => NX.out w1 (Gr.step O6.out.x.below b))
        go_region_law (first
          | (refine step_append_rows _ (by rfl) _ _ 22 (by rfl) (w.heap.size + 1 + 1 + 1) 9 i0 (.string ByteArray.empty) 1 16 Tryz.underlying22 hii hz0 hz1 hz2 rfl (by decide) (.slice a2 NN0.length c2) NN0.length (NN0.map .string) (by rfl) (Sep.ownsRow_at O6.out.n fun g hg => (Gr.step kB (Gr.boxed _ _)).block g (O6.out.n.lt g hg).2) _ (.slice (some ⟨w3.heap.size, 0, none⟩) 1 1) 1 [.string nm] (by rfl) (str_one (w.heap.size + 1 + 1 + 1) w3.heap.size nm w3 rfl (by omega)) (by simp [Value.oneCell']) (by unfold maxLen; omega) (by omega) (by first | (simp; done) | (simp; omega)) ?_; intro v4 w4 hown4 hg4 hloc4; obtain ⟨a4, c4, rfl⟩ := row_shape hown4; have O4 := Lib.hid (O6.out.putN kB hown4 hg4 hloc4); have V4 := Lib.hid (((O6.out.v.went kB).went (Gr.boxed w3 (.cells #[.string nm] 9))).grown hg4 (fun k hk => by have := (O6.out.n.lt k hk).1; omega)); obtain ⟨y0, y1, y2, y3, yf⟩ := V4.out.four; have hq4 : w.heap.size + 1 + 1 < w4.heap.size := V4.out.lt; clear hown4 hg4 hloc4)
          | (go_simp; go_at_call 61; (with_reducible refine (NC6.out _ (by assumption)).mono ?_); rintro e w3 ⟨rfl, hb⟩; have kB : Below w6.heap.size w6 w3 := Gr.step (by assumption) hb; obtain ⟨y0, y1, y2, y3, yf⟩ := (O6.out.v.went kB).four; obtain ⟨x0, x1, x2, x3, hc, _⟩ := HQ6.out _ kB; have hs3 : w6.heap.size ≤ w3.heap.size := kB.size; have hq3 : w.heap.size + 1 + 1 < w3.heap.size := (O6.out.v.went kB).lt; have hx3 : w.heap.size < w3.heap.size := (by omega); clear hb))
        all_goals
          go_wp2
          go_roundw
          case rel => exact ⟨j + 1, _, _, _, _, by omega, by go_num, by rw [E1.out, E2.out]; exact O4.out⟩
          case measure => simp [intOf]; omega
    · have hE : j = l.length := by omega
      subst hE
      have O2 := Lib.hid (Os2.start O.out)
      rw [List.take_length] at O2
      have PSame := Lib.hid (fun s w1 (b : Below w.heap.size w w1) => rplace_same l la lc s w1 (LR.out w1 b) (by omega))
      have HSame := Lib.hid (fun s w1 (b : Below w.heap.size w w1) => rhas_same l la lc s w1 (LR.out w1 b) (by omega))
      have P0 := Lib.hid (PSame.out G.start wr O.out.x.below)
      have V0 := O2.out.v
      obtain ⟨y0, y1, y2, y3, yf⟩ := V0.four
      have hq : w.heap.size + 1 + 1 < wr.heap.size := V0.lt
      have O3 := Lib.hid (O2.out.begun (pos l G.start))
      have RU := Lib.hid KG.out.rules
      have KN := Lib.hid (fun j (hj : j < G.rules.length) => rule_known SM.out.known (List.getElem_mem hj))
      have WD := Lib.hid (fun j (hj : j < G.rules.length) => SM.out.w _ (List.getElem_mem hj))
      have hr1 := KG.out.r1
      obtain ⟨bs, hbs⟩ : ∃ b, b = wr.heap.size := ⟨_, rfl⟩
      rw [← hbs] at O3
      generalize hps : pos l G.start = ps at *
      have HPS := Lib.hid hps
      clear hbs O O2 TM NM V0 hps hlt
      go_wp2_with (go_at_call 62; refine (eqs P0.out).mono ?_; rintro e w' ⟨rfl, rfl⟩)
      clear x0 x1 x2 x3 y0 y1 y2 y3 yf P0 hq
      go_loopw [7] (fun i wt => OsLoop2 w ⟨a3', c3', a5', c5', a6', c6'⟩ G l a1 c1 a2 c2 bs i wt) (fun i _ => G.rules.length - (intOf i).toNat)
      case atStart => exact ⟨0, _, Nat.zero_le _, rfl, by rw [HPS.out]; exact O3.out⟩
      case round =>
        clear O3
        obtain ⟨j, rv, hj, rfl, hO⟩ := hrel
        rw [HPS.out] at hO
        have O := Lib.hid hO
        obtain ⟨x0, x1, x2, x3⟩ := hO.x.box
        try dsimp only at x0 x1 x2 x3
        clear hO
        by_cases hlt : j < G.rules.length
        · obtain ⟨b, o, ra, rc, e, h1, h2, h3, h4, h5⟩ := RU.out j hlt
          try dsimp only at e
          subst e
          have H1 := Lib.hid (fun w1 (bb : Below w.heap.size w w1) => cell_later bb h1)
          have H2 := Lib.hid (fun w1 (bb : Below w.heap.size w w1) => cell_later bb h2)
          have RR := Lib.hid (fun w1 (bb : Below w.heap.size w w1) => Sep.Reads.below h3 bb (Nat.le_refl _))
          obtain ⟨k1, k2⟩ := KN.out j hlt
          have hw8 := WD.out j hlt
          have RH := Lib.hid (fun hm => rulesTo_hit (H := G) (l := l) hlt hm)
          have RM := Lib.hid (fun hm => rulesTo_miss (H := G) (l := l) hlt hm)
          have hrt := rulesTo_le G l j
          have HLT := Lib.hid hlt
          generalize G.rules[j] = r at h1 h2 h3 h4 h5 H1 H2 RR k1 k2 hw8 RH RM
          clear h1 h2 h3 h4 h5 k1 k2
          have h1 := H1.out _ O.out.x.below
          have h2 := H2.out _ O.out.x.below
          have HC := Lib.hid (HSame.out r.1 wr O.out.x.below)
          have PC := Lib.hid (PSame.out r.1 wr O.out.x.below)
          by_cases hin : r.1 ∈ l
          · have E := Lib.hid (RH.out hin)
            rw [decide_eq_true hin] at HC
            clear hin RH RM
            generalize hX0 : rulesTo G l j = X0 at *
            clear hX0
            have B0 := Lib.hid (Bk.new wr #[.int .i64 (pos l r.1), .slice none 0 0] 39 _ rfl)
            have hw : w.heap.size < wr.heap.size := O.out.x.size
            generalize pos l r.1 = p at *
            go_wp2_with (first
              | (go_at_call 24; refine (eqs HC.out).mono ?_; rintro e w' ⟨rfl, rfl⟩)
              | (go_at_call 62; refine (eqs PC.out).mono ?_; rintro e w' ⟨rfl, rfl⟩))
            obtain ⟨w0, hw0⟩ : ∃ w0, w0 = wr := ⟨wr, rfl⟩
            rw [← hw0] at O B0 hw
            have W0 := Lib.hid hw0
            have hsz : wr.heap.size = w0.heap.size := by rw [hw0]
            rw [hsz]
            clear hw0 x0 x1 x2 x3 h1 h2 HC PC hlt hsz
            go_loopw [9] (fun i wt => OsLoop3 w0 l r.2 p i wt) (fun i _ => r.2.length - (intOf i).toNat)
            case atStart => exact ⟨0, _, Nat.zero_le _, rfl, by rw [← W0.out]; exact B0.out, ⟨rfl, .inl ⟨rfl, rfl⟩⟩, by rw [← W0.out]; exact boxed _ _⟩
            case round =>
              clear B0 W0
              obtain ⟨k, v, hk, rfl, hB, hI, hW⟩ := hrel
              obtain ⟨va, vc, rfl⟩ := Sep.ownsRow_shape hI
              have B := Lib.hid hB
              have I := Lib.hid hI
              have K := Lib.hid hW
              have O8 := Lib.hid (O.out.went hW)
              obtain ⟨x0, x1, x2, x3⟩ := O8.out.x.box
              try dsimp only at x0 x1 x2 x3
              have h1 := H1.out _ O8.out.x.below
              have h2 := H2.out _ O8.out.x.below
              have hlt := HLT.out
              obtain ⟨z0, z1, zf⟩ := hB.two
              have hz : w0.heap.size < wr.heap.size := hB.lt
              clear hB hI hW
              by_cases hlk : k < r.2.length
              · obtain ⟨b2, o2, rfl, hc⟩ := int_at (RR.out _ O8.out.x.below) hlk
                have TK := Lib.hid (show (r.2.take (k + 1)).map (pos l) = (r.2.take k).map (pos l) ++ [pos l r.2[k]] by rw [List.take_succ_eq_append_getElem hlk, List.map_append]; rfl)
                have hlk2 : ((r.2.take k).map (pos l)).length ≤ 8 := by rw [List.length_map, List.length_take]; omega
                have PX := Lib.hid (fun w1 (bb : Below wr.heap.size wr w1) => eqs (PSame.out r.2[k] w1 (Gr.step O8.out.x.below bb)))
                generalize r.2[k] = x at hc TK PX
                generalize pos l x = px at *
                generalize (r.2.take k).map (pos l) = xs at *
                go_wp2
                have hbd := drawn wr
                have hzz : w0.heap.size + 1 ≤ wr.heap.size := hz
                have hwz : w.heap.size < w0.heap.size := O.out.x.size
                go_region_law (first
                  | (refine step_append_rows _ (by rfl) _ _ 34 (by rfl) (w0.heap.size + 1) 3 n0 (.int .i64 0) 1 8 Tryz.underlying34 hn0 nz0 nz1 nz2 rfl (by decide) (.slice va xs.length vc) xs.length (ivs xs) (by rfl) (I.out.went (by first | exact Gr.step (drawn _) (boxed _ _) | exact Gr.step (boxed _ _) (drawn _))) _ (.slice (some ⟨wr.heap.size, 0, none⟩) 1 1) 1 (ivs [px]) (by rfl) (by first | exact int_one (w0.heap.size + 1) wr.heap.size px _ rfl hzz | exact RowI.went (int_one (w0.heap.size + 1) wr.heap.size px _ rfl hzz) (drawn _)) (by simp [ivs, iv, Value.oneCell']) (by unfold maxLen; omega) (by omega) (by first | exact Nat.le_trans hzz (Below.size (by first | exact Gr.step (drawn _) (boxed _ _) | exact Gr.step (boxed _ _) (drawn _)))) ?_; intro v4 w4 hown4 hg4 hloc4; obtain ⟨a4, c4, rfl⟩ := row_shape hown4; have B4 := Lib.hid ((B.out.went (by first | exact Gr.step (drawn _) (boxed _ _) | exact Gr.step (boxed _ _) (drawn _))).grown hg4 (fun g hg => by have := (World.ownsRow.lt I.out g hg).1; omega)); have I4 := Lib.hid (show RowI (w0.heap.size + 1) (xs ++ [px]) (.slice a4 (xs.length + 1) c4) w4 from by unfold RowI; rw [List.length_append, ivs_append]; exact hown4); have K4 := Lib.hid (show Below w0.heap.size w0 w4 from Below.grown (Gr.step K.out (by first | exact Gr.step (drawn _) (boxed _ _) | exact Gr.step (boxed _ _) (drawn _))) hg4 (by exact Nat.le_trans K.out.size (Below.size (by first | exact Gr.step (drawn _) (boxed _ _) | exact Gr.step (boxed _ _) (drawn _)))) (fun g hg => by have := (World.ownsRow.lt I.out g hg).1; omega)); obtain ⟨z0, z1, zf⟩ := B4.out.two; have hz4 : w0.heap.size < w4.heap.size := B4.out.lt; clear hown4 hg4 hloc4)
                  | (go_simp; go_at_call 62; (with_reducible refine (PX.out _ (by assumption)).mono ?_); rintro e w3 ⟨rfl, rfl⟩))
                all_goals
                  go_wp2
                  go_roundw
                  case rel => exact ⟨k + 1, _, by omega, by go_num, B4.out.set (j := 1) (by simp) _, by rw [TK.out]; exact Sep.ownsRow_at I4.out fun g hg => Below.heap_setCell _ _ _ _ (by have := (World.ownsRow.lt I4.out g hg).1; simp; omega), K4.out.setCell (Nat.le_refl _) _⟩
                  case measure => simp [intOf]; omega
              · have hE : k = r.2.length := by omega
                subst hE
                have hfull : (r.2.take r.2.length).map (pos l) = r.2.map (pos l) := by rw [List.take_length]
                have hxl : (r.2.map (pos l)).length ≤ 8 := by rw [List.length_map]; exact hw8
                rw [hfull] at I z1 B
                clear hfull
                generalize r.2.map (pos l) = xs at *
                obtain ⟨L, hX, hLO, hT, hA⟩ := O.out.r
                obtain ⟨av, cv, rfl⟩ := row_shape hLO
                have hLl : L.length ≤ 300 := by
                  have := congrArg List.length hX
                  rw [List.length_map] at this
                  omega
                have HX := Lib.hid hX
                have OW := Lib.hid hLO
                have TW := Lib.hid hT
                have AW := Lib.hid hA
                have OR := Lib.hid (Sep.ownsRow_at hLO fun g hg => K.out.block g (hLO.lt g hg).2)
                have hbw := O.out.bw
                have hqb := O.out.qb
                have hks := K.out.size
                obtain ⟨y0, y1, y2, y3, yf⟩ := O8.out.v.four
                have hq8 : w.heap.size + 1 + 1 < wr.heap.size := O8.out.v.lt
                clear hX hLO hT hA
                go_wp2_with (at_builtin; refine wpList_append_rows _ rfl _ _ 23 rfl bs 39 j0 (.agg #[.int .i64 0, .slice none 0 0]) 2 32 Tryz.underlying23 hj0 jz0 jz1 jz2 rfl (by decide) (.slice av L.length cv) L.length (L.flatMap gc) rfl (Sep.ownsRow_at OR.out fun g hg => (boxed _ _).block g (OR.out.lt g hg).2) bs (.slice (some ⟨wr.heap.size, 0, none⟩) 1 1) 1 (gc ((p, xs), .slice va xs.length vc)) rfl (rule2_one bs wr.heap.size ((p, xs), .slice va xs.length vc) wr rfl (by omega)) (by simp [gc, Value.oneCell']) (by unfold maxLen; omega) (by omega) (by simp; omega) ?_; intro v4 w4 hown4 hg4 hloc4; obtain ⟨a4, c4, rfl⟩ := row_shape hown4; have G4 := Lib.hid (GRules.snoc (d := (p, xs)) OW.out TW.out AW.out K.out (Rw.IntsV.mono I.out (by omega)) hbw hown4 hg4 hloc4); have O9 := Lib.hid (O.out.put K.out (fun g hg => (OW.out.lt g hg).1) hg4 (by have := G4.out; rw [HX.out] at this; exact this)); have V4 := Lib.hid ((O8.out.v.went (boxed wr (.cells #[.int .i64 p, .slice va xs.length vc] 39))).grown hg4 (fun k hk => by have := (OW.out.lt k hk).1; omega)); clear y0 y1 y2 y3 yf; obtain ⟨y0, y1, y2, y3, yf⟩ := V4.out.four; have hq4 : w.heap.size + 1 + 1 < w4.heap.size := V4.out.lt; clear hown4 hg4 hloc4)
                go_roundw
                case rel => exact ⟨j + 1, _, by have := HLT.out; omega, by go_num, by rw [HPS.out, E.out]; exact O9.out⟩
                case measure => have := HLT.out; simp [intOf]; omega
          · have E := Lib.hid (RM.out hin)
            rw [decide_eq_false hin] at HC
            clear hin RH RM PC
            go_wp2_with (go_at_call 24; refine (eqs HC.out).mono ?_; rintro e w' ⟨rfl, rfl⟩)
            go_roundw
            case rel => exact ⟨j + 1, _, by omega, by go_num, by rw [HPS.out, E.out]; exact O.out⟩
            case measure => simp [intOf]; omega
        · have hE : j = G.rules.length := by omega
          subst hE
          obtain ⟨av, cv, rfl, hcv⟩ := O.out.r.len
          obtain ⟨y0, y1, y2, y3, yf⟩ := O.out.v.four
          obtain ⟨z0, z1, z2, z3, zf⟩ := O.out.z.four
          have hqq := O.out.q
          obtain ⟨hnn, hGN⟩ := O.out.gnew KG.out.ok SM.out hll
          have GN := Lib.hid hGN
          have HN := Lib.hid hnn
          have PS := Lib.hid (show ps = (onlyG G l).start from HPS.out.symm)
          have BL := Lib.hid O.out.x.below
          have hqv : w.heap.size + 1 + 1 < wr.heap.size := O.out.v.lt
          clear hGN hnn hcv RU KN WD KG SM HSame PSame LR
          generalize (rulesTo G l G.rules.length).length = nr at *
          go_wp2
          have hF2 := Rw.fr_set4 wr (w.heap.size + 1) (.slice a1 (tnL G l).length c1) (.slice a2 (nnL G l).length c2) (.slice av nr cv) (.int .i64 ps)
          have GN2 := GN.out.fr hF2 (fun k hk => by omega)
          have BL2 := Rw.below_set4 (q := w.heap.size + 1) BL.out (by omega) (.slice a1 (tnL G l).length c1) (.slice a2 (nnL G l).length c2) (.slice av nr cv) (.int .i64 ps)
          try simp only [Exit.inBlock, Exit.then]
          refine bodyPost_ret (v := .agg #[.slice a1 (tnL G l).length c1, .slice a2 (nnL G l).length c2, .slice av nr cv, .int .i64 ps]) (by simp [results, Tryz.results30, go_sem, z0, z1, z2, z3]) rfl ⟨⟨a1, c1, a2, c2, av, cv⟩, ?_, GN2.mono (by omega), BL2⟩
          rw [HN.out, PS.out]
          rfl

end Go.Proofs.YtljblpekpmgmaaaGreatDoor.Lv

namespace Go.Proofs.YtljblpekpmgmaaaGreatDoor.Gr
open Go.RowKit Go.Maps
set_option linter.unusedVariables false

set_option maxHeartbeats 1000000 in
theorem rints_any (L M : List Int) (a b : Option Addr) (c d : Nat) (w : World) (ha : Sep.Reads a (ivs L) w) (hb : Sep.Reads b (ivs M) w) (hl : L.length ≤ 17592186044416) (hm : M.length ≤ 17592186044416) :
    Calls Tryz.prog 31 #[.slice a L.length c, .slice b M.length d] w (Is (.bool (sameI L M)) w) := by
  have HA := Lib.hid ha
  have HB := Lib.hid hb
  clear ha hb
  by_cases hlen : L.length = M.length
  · have HL := Lib.hid hlen
    have hle : M.length ≤ L.length := by omega
    have hle' : L.length ≤ M.length := by omega
    have hlb : ((L.length : Int) != (M.length : Int)) = false := by simp [hlen]
    clear hlen
    go_enter Tryz.func31, Tryz.ntmps31
    go_wp2
    go_loopw [5] (fun i wr => ∃ k : Nat, k ≤ L.length ∧ i = .int .i64 k ∧ Alike L M k ∧ Below w.heap.size w wr) (fun i _ => L.length - (intOf i).toNat)
    case atStart => exact ⟨0, Nat.zero_le _, rfl, alike_zero _ _, .refl _ _⟩
    case round =>
      obtain ⟨k, hk, rfl, hA, hW⟩ := hrel
      have A := Lib.hid hA
      have HW := Lib.hid hW
      clear hA
      by_cases hlt : k < L.length
      · have hlm : k < M.length := by omega
        obtain ⟨b1, o1, rfl, h1⟩ := reads_get (v := .int .i64 L[k]) HA.out (by simp [ivs]) hlt (by simp [ivs, iv, hlt])
        obtain ⟨b2, o2, rfl, h2⟩ := reads_get (v := .int .i64 M[k]) HB.out (by simp [ivs]) hlm (by simp [ivs, iv, hlm])
        have k1 := cell_later hW h1
        have k2 := cell_later hW h2
        clear h1 h2 hW
        by_cases he : L[k] = M[k]
        · have A2 := Lib.hid (alike_step A.out hlt hlm he)
          rw [he] at k1
          clear he
          generalize M[k] = y at k1 k2
          go_wp2
          go_quiet (fail)
          go_wp2
          go_roundw
          case rel => exact ⟨k + 1, by omega, by go_num, A2.out, HW.out.trans ⟨rfl, rfl, rfl, Nat.le_refl _, fun _ _ => rfl⟩⟩
          case measure => simp [intOf]; omega
        · have F := Lib.hid (show sameI L M = false by simpa [sameI] using alike_fail hlt hlm he)
          have E := (show (L[k] != M[k]) = true by simpa using he)
          clear he
          generalize L[k] = x at k1 E
          generalize M[k] = y at k2 E
          go_wp2
          go_quiet (fail)
          go_wp2
          go_ret
          exact ⟨bool_of F.out, HW.out.trans ⟨rfl, rfl, rfl, Nat.le_refl _, fun _ _ => rfl⟩⟩
      · have F := Lib.hid (show sameI L M = true by simpa [sameI] using alike_end A.out HL.out hlt)
        clear hW
        go_wp2
        go_ret
        exact ⟨bool_of F.out, HW.out⟩
  · have F := Lib.hid (show sameI L M = false by simpa [sameI] using lists_len hlen)
    have hlb : ((L.length : Int) != (M.length : Int)) = true := by simpa using fun h => hlen (by omega)
    clear hlen
    go_enter Tryz.func31, Tryz.ntmps31
    go_wp2
    go_ret
    exact ⟨bool_of F.out, .refl _ _⟩

end Go.Proofs.YtljblpekpmgmaaaGreatDoor.Gr
namespace Go.Proofs.YtljblpekpmgmaaaGreatDoor.Lv
open Go.RowKit Go.Maps
open Go.Proofs.YtljblpekpmgmaaaGreatDoor.Gr
set_option linter.unusedVariables false

theorem rsame_ints (L : List Int) (a b : Option Addr) (c d : Nat) (w : World) (hA : Sep.Reads a (ivs L) w) (hB : Sep.Reads b (ivs L) w) (hl : L.length ≤ 100000) :
    Calls Tryz.prog 10 #[.slice a L.length c, .slice b L.length d] w (Is (.bool true) w) := by
  have H := Lib.hid (rints_any L L a b c d w hA hB (by omega) (by omega))
  have e : sameI L L = true := by simp [sameI]
  rw [e] at H
  clear hA hB e
  go_enter Tryz.func10, Tryz.ntmps10
  go_wp2_with (go_at_call 31; refine H.out.mono ?_; rintro e w1 ⟨rfl, hb⟩; have HB := Lib.hid hb; clear hb)
  go_ret
  exact ⟨rfl, HB.out⟩

end Go.Proofs.YtljblpekpmgmaaaGreatDoor.Lv

namespace Go.Proofs.YtljblpekpmgmaaaGreatDoor.Lv
open Go.RowKit Go.Maps
open Go.Proofs.YtljblpekpmgmaaaGreatDoor.Gr
open Go.Proofs.YtljblpekpmgmaaaGreatDoor.Rw (Bk IntsV GRules zg row_shape gc step_append_rows info_rule2 rule2_one)
set_option linter.unusedVariables false
set_option linter.unusedSimpArgs false

theorem reads_fr {a : Option Addr} {xs : List Value} {S : Nat → Prop} {w w' : World} (h : Sep.Reads a xs w) (hF : Sep.Fr S w w') (hn : ∀ b o, a = some ⟨b, o, none⟩ → 0 < xs.length → ¬ S b) : Sep.Reads a xs w' := fun i hi => by
  obtain ⟨b, o, e, hc⟩ := h i hi
  exact ⟨b, o, e, hF.cell (p := ⟨b, o + i, none⟩) hc (hn b o e (by omega))⟩
theorem reads_lt {a : Option Addr} {xs : List Value} {w : World} (h : Sep.Reads a xs w) : ∀ b o, a = some ⟨b, o, none⟩ → 0 < xs.length → b < w.heap.size := fun b o e hl => by
  obtain ⟨b', o', e', hc⟩ := h 0 hl
  rw [e] at e'
  injection e' with e'
  injection e' with e1 e2
  subst e1
  exact World.block_lt_of_cell? w ⟨b, o' + 0, none⟩ hc
def RtRel (W : World) (h : Sh) (G : Gram) (q : Nat) (pa : Option Addr) (i : Value) (w : World) : Prop :=
  ∃ (j : Nat) (rv : Value), j ≤ G.rules.length ∧ i = .int .i64 j ∧ Bx W h G w ∧ Bk (W.heap.size + 1) zg 25 w ∧ Bk q #[.slice h.a1 G.terms.length h.c1, .slice h.a2 G.nons.length h.c2, rv, .int .i64 G.start] 25 w ∧ GShare W (q + 1) (keepTo G j) rv w ∧ Sep.Reads pa (ivs (prodL G)) w

set_option maxRecDepth 100000 in
set_option maxHeartbeats 16000000 in
theorem rtrim_any (h : Sh) (G : Gram) (w : World) (k : GAt h G w) :
    Calls Tryz.prog 9 #[gv h G] w (Trimmed G w) := by
  obtain ⟨i0, hii, hz0, hz1, hz2⟩ := info_parts info_rule2
  obtain ⟨a1, c1, a2, c2, a3, c3⟩ := h
  have X := Lib.hid ((Bx.start ⟨a1, c1, a2, c2, a3, c3⟩ G w 25).went (boxed _ (.cells zg 25)))
  have Z := Lib.hid (Bk.new (w.alloc (.cells #[.slice a1 G.terms.length c1, .slice a2 G.nons.length c2, .slice a3 G.rules.length c3, .int .i64 G.start] 25)) zg 25 (w.heap.size + 1) (by simp))
  have C := Lib.hid (fun w1 (b : Below w.heap.size w w1) => rcheck_any ⟨a1, c1, a2, c2, a3, c3⟩ G w1 (k.went b))
  have FP := Lib.hid (fun w1 (b : Below w.heap.size w w1) => rproductive_any ⟨a1, c1, a2, c2, a3, c3⟩ G w1 (k.went b))
  obtain ⟨x0, x1, x2, x3⟩ := X.out.box
  try dsimp only at x0 x1 x2 x3
  have KG := Lib.hid k
  clear k
  unfold gv
  dsimp only
  go_enter Tryz.func9, Tryz.ntmps9
  go_wp2_with fail
  refine (FP.out _ X.out.below).mono ?_
  rintro e w1 ⟨pa, pc, rfl, hP, _, hb⟩
  have X1 := Lib.hid (X.out.went hb)
  have Z1 := Lib.hid (Z.out.went hb)
  have P1 := Lib.hid hP
  clear hb hP X Z FP x0 x1 x2 x3
  obtain ⟨x0, x1, x2, x3⟩ := X1.out.box
  try dsimp only at x0 x1 x2 x3
  by_cases hc : checkN G = 0
  · have SM := Lib.hid (sml_of hc)
    have htop : top G ≤ 240 := by have := SM.out.t; have := SM.out.n; unfold top; omega
    have hpl := prodL_len (G := G)
    have FI := Lib.hid (fun r ra rc w1 (b : Below w.heap.size w w1) hR hrl hL => rfine_any ⟨a1, c1, a2, c2, a3, c3⟩ G r ra rc (prodL G) pa pc w1 (KG.out.went b) hR hrl hL (by omega))
    have HC := Lib.hid hc
    rw [hc] at C
    go_wp2_with fail
    refine (C.out _ X1.out.below).mono ?_
    rintro e w2 ⟨rfl, hb⟩
    have X2 := Lib.hid (X1.out.went hb)
    have Z2 := Lib.hid (Z1.out.went hb)
    have P2 := Lib.hid (Sep.Reads.below P1.out hb (Nat.le_refl _))
    clear hb X1 Z1 P1 x0 x1 x2 x3 C
    obtain ⟨x0, x1, x2, x3⟩ := X2.out.box
    try dsimp only at x0 x1 x2 x3
    have HS := Lib.hid (rhas_same (prodL G) pa pc G.start w2 P2.out (by omega))
    by_cases hin : G.start ∈ prodL G
    · obtain ⟨e1, e2⟩ := trim_yes (G := G) ⟨hc, (mem_prodL hc).1 hin⟩
      have E1 := Lib.hid e1
      have E2 := Lib.hid e2
      rw [decide_eq_true hin] at HS
      clear hc hin e1 e2
      have hw2 : w.heap.size + 1 < w2.heap.size := Z2.out.lt
      have hr1 := KG.out.r1
      have RU := Lib.hid KG.out.rules
      have FB := Lib.hid (fun r => fine_by (G := G) (r := r) HC.out)
      have FL := Lib.hid (fun r hr hf => fine_left (G := G) (r := r) HC.out hr hf)
      have KE := Lib.hid (keepTo_end G)
      have b5 := boxed w2 (.cells #[.slice a1 G.terms.length c1, .slice a2 G.nons.length c2, .slice none 0 0, .int .i64 G.start] 25)
      have X5 := Lib.hid (X2.out.went b5)
      have Z5 := Lib.hid (Z2.out.went b5)
      have Q5 := Lib.hid (Bk.new w2 #[.slice a1 G.terms.length c1, .slice a2 G.nons.length c2, .slice none 0 0, .int .i64 G.start] 25 _ rfl)
      have P5 := Lib.hid (Sep.Reads.below P2.out b5 (Nat.le_refl _))
      clear b5
      go_wp2_with (go_at_call 24; refine (eqs HS.out).mono ?_; rintro e w3 ⟨rfl, rfl⟩)
      have PN := Lib.hid (reads_lt P2.out)
      generalize hq : w2.heap.size = q at *
      have QL := Lib.hid hw2
      clear x0 x1 x2 x3 X2 Z2 P2 HS hq
      go_loopw [6] (fun i wr => RtRel w ⟨a1, c1, a2, c2, a3, c3⟩ G q pa i wr) (fun i _ => G.rules.length - (intOf i).toNat)
      case atStart => exact ⟨0, _, Nat.zero_le _, rfl, X5.out, Z5.out, Q5.out, GShare.nil _ _ _, P5.out⟩
      case round =>
        clear X5 Z5 Q5 P5
        obtain ⟨j, rv, hj, rfl, hX, hZ, hQ, hG, hP⟩ := hrel
        obtain ⟨av, cv, rfl, hcv⟩ := hG.len
        have X := Lib.hid hX
        have Z := Lib.hid hZ
        have Q := Lib.hid hQ
        have GS := Lib.hid hG
        have PR := Lib.hid hP
        have hkl := keepTo_le G j
        obtain ⟨x0, x1, x2, x3⟩ := hX.box
        try dsimp only at x0 x1 x2 x3
        clear hX hZ hQ hP hG
        by_cases hlt : j < G.rules.length
        · obtain ⟨b, o, ra, rc, e, h1, h2, h3, h4, h5⟩ := RU.out j hlt
          try dsimp only at e
          subst e
          replace h1 := cell_later X.out.below h1
          replace h2 := cell_later X.out.below h2
          have hw8 := SM.out.w _ (List.getElem_mem hlt)
          have hrl := SM.out.r
          have FF := Lib.hid (FB.out (G.rules[j]'hlt))
          have FX := Lib.hid (FL.out (G.rules[j]'hlt) (List.getElem_mem hlt))
          have KH := Lib.hid (fun hx => keepTo_hit hlt hx)
          have KM := Lib.hid (fun hx => keepTo_miss hlt hx)
          generalize G.rules[j] = r at h1 h2 h3 h4 h5 FF FX KH KM hw8
          have HV := Lib.hid (show RV r.2 (.slice ra r.2.length rc) w from ⟨ra, rc, rfl, h3, h4, h5⟩)
          have FC := Lib.hid (fun w1 (bb : Below wr.heap.size wr w1) => FI.out r ra rc w1 (Gr.step X.out.below bb) (Sep.Reads.below h3 (Gr.step X.out.below bb) (Nat.le_refl _)) (by omega) (Sep.Reads.below PR.out bb (Nat.le_refl _)))
          have HC2 := Lib.hid (fun w1 (bb : Below wr.heap.size wr w1) => rhas_any (prodL G) pa pc r.1 w1 (Sep.Reads.below PR.out bb (Nat.le_refl _)) (by omega))
          have HQ := Lib.hid (six' (W := wr) (b := b) (o := o) (m := j) x0 x1 x2 x3 h1 h2)
          have hbd := drawn wr
          clear h3 h4 h5
          cases hf : fineB G r (prodL G) with
          | false =>
            have K2 := Lib.hid (KM.out fun hx => by rw [FF.out.2 hx] at hf; cases hf)
            rw [hf] at FC
            clear hf FF FX KH KM HC2
            go_wp2
            refine wp_region_held_drew (S := fun w' => w'.cell? ⟨w.heap.size, 0, none⟩ = some (.slice a1 G.terms.length c1) ∧ w'.cell? ⟨w.heap.size, 1, none⟩ = some (.slice a2 G.nons.length c2) ∧ w'.cell? ⟨w.heap.size, 2, none⟩ = some (.slice (some ⟨b, o, none⟩) G.rules.length c3) ∧ w'.cell? ⟨w.heap.size, 3, none⟩ = some (.int .i64 G.start) ∧ w'.cell? ⟨b, o + j * 2, none⟩ = some (.int .i64 r.1) ∧ w'.cell? ⟨b, o + j * 2 + 1, none⟩ = some (.slice ra r.2.length rc) ∧ Below wr.heap.size wr w') (by kernel_rfl) (HQ.out _ hbd) (fun hHeld => ?_)
            clear x0 x1 x2 x3 h1 h2
            refine wpAnyH_take (i := 0) (oi := _) (v := .agg #[.slice a1 G.terms.length c1, .slice a2 G.nons.length c2, .slice (some ⟨b, o, none⟩) G.rules.length c3, .int .i64 G.start]) rfl (by kernel_rfl) (by kernel_rfl) (by kernel_rfl) (fun _ _ _ h => h) (Or.inl ⟨by rfl, fun w5 hs5 => by obtain ⟨s0, s1, s2, s3, s4, s5, s6⟩ := hs5; go_simp⟩) (by assumption) ?_
            change wpAnyH _ _ _ _ _ _ _ (Act.put _ (some 35) _) _
            simp only [Act.put, List.setIfInBounds_toArray, List.set_cons_zero, List.set_cons_succ]
            refine wpAnyH_take (i := 1) (oi := _) (v := .pointer (some ⟨w.heap.size, 2, none⟩)) rfl (by kernel_rfl) (by kernel_rfl) (by kernel_rfl) (fun _ _ _ h => h) (Or.inl ⟨by rfl, fun w5 hs5 => by obtain ⟨s0, s1, s2, s3, s4, s5, s6⟩ := hs5; go_simp⟩) (by assumption) ?_
            change wpAnyH _ _ _ _ _ _ _ (Act.put _ (some 36) _) _
            simp only [Act.put, List.setIfInBounds_toArray, List.set_cons_zero, List.set_cons_succ]
            refine wpAnyH_take (i := 2) (oi := _) (v := .slice (some ⟨b, o, none⟩) G.rules.length c3) rfl (by kernel_rfl) (by kernel_rfl) (by kernel_rfl) (fun _ _ _ h => h) (Or.inl ⟨by rfl, fun w5 hs5 => by obtain ⟨s0, s1, s2, s3, s4, s5, s6⟩ := hs5; go_simp⟩) (by assumption) ?_
            change wpAnyH _ _ _ _ _ _ _ (Act.put _ (some 37) _) _
            simp only [Act.put, List.setIfInBounds_toArray, List.set_cons_zero, List.set_cons_succ]
            refine wpAnyH_take (i := 3) (oi := _) (v := .int .i64 j) rfl (by kernel_rfl) (by kernel_rfl) (by kernel_rfl) (fun _ _ _ h => h) (Or.inl ⟨by rfl, fun w5 hs5 => by obtain ⟨s0, s1, s2, s3, s4, s5, s6⟩ := hs5; go_simp⟩) (by assumption) ?_
            change wpAnyH _ _ _ _ _ _ _ (Act.put _ (some 38) _) _
            simp only [Act.put, List.setIfInBounds_toArray, List.set_cons_zero, List.set_cons_succ]
            refine wpAnyH_take (i := 4) (oi := _) (v := .pointer (some ⟨b, o + j * 2, none⟩)) rfl (by kernel_rfl) (by kernel_rfl) (by kernel_rfl) (fun _ _ _ h => h) (Or.inl ⟨by rfl, fun w5 hs5 => by obtain ⟨s0, s1, s2, s3, s4, s5, s6⟩ := hs5; go_simp⟩) (by assumption) ?_
            change wpAnyH _ _ _ _ _ _ _ (Act.put _ (some 39) _) _
            simp only [Act.put, List.setIfInBounds_toArray, List.set_cons_zero, List.set_cons_succ]
            refine wpAnyH_take (i := 5) (oi := _) (v := .agg #[.int .i64 r.1, .slice ra r.2.length rc]) rfl (by kernel_rfl) (by kernel_rfl) (by kernel_rfl) (fun _ _ _ h => h) (Or.inl ⟨by rfl, fun w5 hs5 => by obtain ⟨s0, s1, s2, s3, s4, s5, s6⟩ := hs5; go_simp⟩) (by assumption) ?_
            change wpAnyH _ _ _ _ _ _ _ (Act.put _ (some 40) _) _
            simp only [Act.put, List.setIfInBounds_toArray, List.set_cons_zero, List.set_cons_succ]
            refine wpAnyH_take (i := 6) (oi := _) (v := .slice pa (prodL G).length pc) rfl (by kernel_rfl) (by kernel_rfl) (by kernel_rfl) (fun _ _ _ h => h) (Or.inl ⟨by rfl, fun w5 hs5 => by obtain ⟨s0, s1, s2, s3, s4, s5, s6⟩ := hs5; go_simp⟩) (by assumption) ?_
            change wpAnyH _ _ _ _ _ _ _ (Act.put _ (some 41) _) _
            simp only [Act.put, List.setIfInBounds_toArray, List.set_cons_zero, List.set_cons_succ]
            refine wpAnyH_ready (rs := [7]) (by kernel_rfl) (by simp) ?_
            refine AllReadyH.cons (o := _) rfl (fun K' hK' => ?_) AllReadyH.nil
            go_simp
            refine (FC.out _ hbd).mono ?_
            rintro e wo ⟨rfl, hb⟩
            have kB : Below wr.heap.size wr wo := Gr.step hbd hb
            clear hb hHeld
            refine hK'.out _ _ (HQ.out _ kB) (fun hHeld => ?_)
            clear hK'
            refine wpAnyH_take (i := 8) (oi := _) (v := .bool false) rfl (by kernel_rfl) (by kernel_rfl) (by kernel_rfl) (fun _ _ _ h => h) (Or.inl ⟨by rfl, fun w5 hs5 => by obtain ⟨s0, s1, s2, s3, s4, s5, s6⟩ := hs5; go_simp⟩) (by assumption) ?_
            change wpAnyH _ _ _ _ _ _ _ (Act.put _ (some 43) _) _
            simp only [Act.put, List.setIfInBounds_toArray, List.set_cons_zero, List.set_cons_succ]
            refine wpAnyH_take (i := 9) (oi := _) (v := undef) rfl (by kernel_rfl) (by kernel_rfl) (by kernel_rfl) (fun _ _ _ h => h) (Or.inr ⟨by rfl, rfl⟩) (by assumption) ?_
            change wpAnyH _ _ _ _ _ _ _ (Act.put _ (some 44) _) _
            simp only [Act.put, List.setIfInBounds_toArray, List.set_cons_zero, List.set_cons_succ]
            refine wpAnyH_take (i := 10) (oi := _) (v := undef) rfl (by kernel_rfl) (by kernel_rfl) (by kernel_rfl) (fun _ _ _ h => h) (Or.inr ⟨by rfl, rfl⟩) (by assumption) ?_
            change wpAnyH _ _ _ _ _ _ _ (Act.put _ (some 45) _) _
            simp only [Act.put, List.setIfInBounds_toArray, List.set_cons_zero, List.set_cons_succ]
            refine wpAnyH_take (i := 11) (oi := _) (v := undef) rfl (by kernel_rfl) (by kernel_rfl) (by kernel_rfl) (fun _ _ _ h => h) (Or.inr ⟨by rfl, rfl⟩) (by assumption) ?_
            change wpAnyH _ _ _ _ _ _ _ (Act.put _ (some 46) _) _
            simp only [Act.put, List.setIfInBounds_toArray, List.set_cons_zero, List.set_cons_succ]
            refine wpAnyH_take (i := 12) (oi := _) (v := undef) rfl (by kernel_rfl) (by kernel_rfl) (by kernel_rfl) (fun _ _ _ h => h) (Or.inr ⟨by rfl, rfl⟩) (by assumption) ?_
            change wpAnyH _ _ _ _ _ _ _ (Act.put _ (some 47) _) _
            simp only [Act.put, List.setIfInBounds_toArray, List.set_cons_zero, List.set_cons_succ]
            refine wpAnyH_take (i := 13) (oi := _) (v := undef) rfl (by kernel_rfl) (by kernel_rfl) (by kernel_rfl) (fun _ _ _ h => h) (Or.inr ⟨by rfl, rfl⟩) (by assumption) ?_
            change wpAnyH _ _ _ _ _ _ _ (Act.put _ (some 48) _) _
            simp only [Act.put, List.setIfInBounds_toArray, List.set_cons_zero, List.set_cons_succ]
            refine wpAnyH_take (i := 14) (oi := _) (v := undef) rfl (by kernel_rfl) (by kernel_rfl) (by kernel_rfl) (fun _ _ _ h => h) (Or.inr ⟨by rfl, rfl⟩) (by assumption) ?_
            change wpAnyH _ _ _ _ _ _ _ (Act.put _ (some 49) _) _
            simp only [Act.put, List.setIfInBounds_toArray, List.set_cons_zero, List.set_cons_succ]
            refine wpAnyH_take (i := 15) (oi := _) (v := undef) rfl (by kernel_rfl) (by kernel_rfl) (by kernel_rfl) (fun _ _ _ h => h) (Or.inr ⟨by rfl, rfl⟩) (by assumption) ?_
            change wpAnyH _ _ _ _ _ _ _ (Act.put _ (some 50) _) _
            simp only [Act.put, List.setIfInBounds_toArray, List.set_cons_zero, List.set_cons_succ]
            refine wpAnyH_take (i := 16) (oi := _) (v := undef) rfl (by kernel_rfl) (by kernel_rfl) (by kernel_rfl) (fun _ _ _ h => h) (Or.inr ⟨by rfl, rfl⟩) (by assumption) ?_
            change wpAnyH _ _ _ _ _ _ _ (Act.put _ (some 51) _) _
            simp only [Act.put, List.setIfInBounds_toArray, List.set_cons_zero, List.set_cons_succ]
            refine wpAnyH_take (i := 17) (oi := _) (v := .bool false) rfl (by kernel_rfl) (by kernel_rfl) (by kernel_rfl) (fun _ _ _ h => h) (Or.inl ⟨by rfl, fun w5 hs5 => by obtain ⟨s0, s1, s2, s3, s4, s5, s6⟩ := hs5; go_simp⟩) (by assumption) ?_
            change wpAnyH _ _ _ _ _ _ _ (Act.put _ (some 52) _) _
            simp only [Act.put, List.setIfInBounds_toArray, List.set_cons_zero, List.set_cons_succ]
            refine wpAnyH_done (by kernel_rfl) ?_ _
            clear hHeld
            go_wp2
            go_roundw
            case rel => exact ⟨j + 1, _, by omega, by go_num, X.out.went kB, Z.out.went kB, Q.out.went kB, by rw [K2.out]; exact GS.out.went kB, Sep.Reads.below PR.out kB (Nat.le_refl _)⟩
            case measure => simp [intOf]; omega
          | true =>
            have K2 := Lib.hid (KH.out (FF.out.1 hf))
            have hm := FX.out (FF.out.1 hf)
            rw [decide_eq_true hm] at HC2
            rw [hf] at FC
            clear hf hm FF FX KH KM
            go_wp2
            clear x0 x1 x2 x3 h1 h2
            go_region_held3 (fun w' => w'.cell? ⟨w.heap.size, 0, none⟩ = some (.slice a1 G.terms.length c1) ∧ w'.cell? ⟨w.heap.size, 1, none⟩ = some (.slice a2 G.nons.length c2) ∧ w'.cell? ⟨w.heap.size, 2, none⟩ = some (.slice (some ⟨b, o, none⟩) G.rules.length c3) ∧ w'.cell? ⟨w.heap.size, 3, none⟩ = some (.int .i64 G.start) ∧ w'.cell? ⟨b, o + j * 2, none⟩ = some (.int .i64 r.1) ∧ w'.cell? ⟨b, o + j * 2 + 1, none⟩ = some (.slice ra r.2.length rc) ∧ Below wr.heap.size wr w')
              (exact HQ.out _ (by assumption))
              (first
                | (go_at_call 28; refine (FC.out _ hbd).mono ?_; rintro e wn ⟨rfl, hb⟩; have l1 : Below wr.heap.size wr wn := Gr.step hbd hb; clear hb)
                | (go_at_call 24; refine (HC2.out _ l1).mono ?_; rintro e wn2 ⟨rfl, hb⟩; have l2 : Below wr.heap.size wr wn2 := Gr.step l1 hb; clear hb)
                | fail)
            have X6 := Lib.hid (X.out.went l2)
            have Z6 := Lib.hid (Z.out.went l2)
            have Q6 := Lib.hid (Q.out.went l2)
            have P6 := Lib.hid (Sep.Reads.below PR.out l2 (Nat.le_refl _))
            obtain ⟨x0, x1, x2, x3, h1, h2, _⟩ := HQ.out _ l2
            obtain ⟨L, hX, hO, hT⟩ := GS.out.went l2
            obtain ⟨av2, cv2, hve⟩ := row_shape hO
            have hLl : L.length = (keepTo G j).length := by
              have := congrArg List.length hX
              rwa [List.length_map] at this
            have HXL := Lib.hid hX
            have OW := Lib.hid hO
            have TW := Lib.hid hT
            obtain ⟨y0, y1, y2, y3, yf⟩ := Q6.out.four
            have hq6 : q < wn2.heap.size := Q6.out.lt
            have hz6 : w.heap.size < wn2.heap.size := X6.out.size
            clear hX hO hT hve l1 l2 HQ FC HC2 hbd
            generalize (keepTo G j).length = nl at *
            subst hLl
            go_wp2
            have hbd := drawn wn2
            go_region_law (first
              | (refine step_append_rows _ (by rfl) _ _ 23 (by rfl) (q + 1) 39 i0 (.agg #[.int .i64 0, .slice none 0 0]) 2 32 Tryz.underlying23 hii hz0 hz1 hz2 rfl (by decide) (.slice av L.length cv) L.length (L.flatMap gc) (by rfl) (Sep.ownsRow_at OW.out fun g hg => ((by first | exact Gr.step (drawn _) (boxed _ _) | exact Gr.step (boxed _ _) (drawn _)) : Below wn2.heap.size wn2 _).block g (OW.out.lt g hg).2) (q + 1) (.slice (some ⟨wn2.heap.size, 0, none⟩) 1 1) 1 (gc (r, .slice ra r.2.length rc)) (by rfl) (by first | exact rule2_one (q + 1) wn2.heap.size (r, .slice ra r.2.length rc) _ rfl (by omega) | exact Sep.ownsRow_at (rule2_one (q + 1) wn2.heap.size (r, .slice ra r.2.length rc) wn2 rfl (by omega)) fun _ _ => rfl) (by simp [gc, Value.oneCell']) (by unfold maxLen; omega) (by omega) (by exact Nat.le_trans (show q + 1 ≤ wn2.heap.size from hq6) (Below.size (by first | exact Gr.step (drawn _) (boxed _ _) | exact Gr.step (boxed _ _) (drawn _)))) ?_; intro v4 w4 hown4 hg4 hloc4; obtain ⟨a4, c4, rfl⟩ := row_shape hown4; have S4 := Lib.hid (GShare.snoc (d := r) TW.out HV.out hown4); have X7 := Lib.hid ((X6.out.went (by first | exact Gr.step (drawn _) (boxed _ _) | exact Gr.step (boxed _ _) (drawn _))).grown hg4 (fun g hg => by have := (OW.out.lt g hg).1; have := QL.out; omega)); have Z7 := Lib.hid ((Z6.out.went (by first | exact Gr.step (drawn _) (boxed _ _) | exact Gr.step (boxed _ _) (drawn _))).grown hg4 (fun g hg => by have := (OW.out.lt g hg).1; have := QL.out; omega)); have Q7 := Lib.hid ((Q6.out.went (by first | exact Gr.step (drawn _) (boxed _ _) | exact Gr.step (boxed _ _) (drawn _))).grown hg4 (fun g hg => by have := (OW.out.lt g hg).1; omega)); have P7 := Lib.hid (reads_fr (Sep.Reads.below P6.out (by first | exact Gr.step (drawn _) (boxed _ _) | exact Gr.step (boxed _ _) (drawn _)) (Nat.le_refl _)) (Sep.Fr.grown (Sep.Fr.refl (fun g => (Value.slice av L.length cv).ownBlock = some g) _) hg4 (fun g hg => .inl hg)) (fun b o e hl hg => by have := PN.out b o e hl; have := (OW.out.lt b hg).1; omega)); obtain ⟨y0, y1, y2, y3, yf⟩ := Q7.out.four; have hq7 : q < w4.heap.size := Q7.out.lt; clear hown4 hg4 hloc4)
              | fail)
            all_goals
              go_wp2
              go_roundw
              case rel =>
                have hF := (Sep.Fr.refl (fun k => k = q) w4).setCell ⟨q, 2, none⟩ rfl (.slice a4 (L.length + 1) c4)
                exact ⟨j + 1, _, by omega, by go_num, bx_fr X7.out hF (fun i hi => by have := QL.out; omega), Z7.out.fr hF (by have := QL.out; omega), Q7.out.set (j := 2) (by simp) _, by rw [K2.out, ← HXL.out]; exact S4.out.at_ fun g hg => hF.block g (by obtain ⟨L', _, h2, _⟩ := S4.out; exact (h2.lt g hg).2) (by obtain ⟨L', _, h2, _⟩ := S4.out; have := (h2.lt g hg).1; omega), reads_fr P7.out hF (fun b o e hl => by have := PN.out b o e hl; omega)⟩
              case measure => simp [intOf]; omega
        · have hE : j = G.rules.length := by omega
          subst hE
          rw [KE.out] at GS
          rw [KE.out] at Q hcv
          have GK := Lib.hid (show GAt ⟨a1, c1, a2, c2, av, cv⟩ (keptG G) wr from kept_at KG.out X.out.below (by rw [← KE.out]; rw [KE.out]; exact GS.out) hcv)
          have FR := Lib.hid (fun w1 (b : Below wr.heap.size wr w1) => rfrom_any ⟨a1, c1, a2, c2, av, cv⟩ (keptG G) w1 (GK.out.went b) (sml_kept SM.out))
          have ON := Lib.hid (fun la lc w1 (b : Below wr.heap.size wr w1) hL hll => ronly_any ⟨a1, c1, a2, c2, av, cv⟩ (keptG G) (fromL (keptG G)) la lc w1 (GK.out.went b) (sml_kept SM.out) hL hll)
          have hfl : (fromL (keptG G)).length ≤ 240 := Nat.le_trans fromL_len (show top G ≤ 240 from htop)
          have BX := Lib.hid X.out.below
          obtain ⟨y0, y1, y2, y3, yf⟩ := Q.out.four
          have hqw : q < wr.heap.size := Q.out.lt
          clear GS PR RU FB FL KE FI hcv
          go_wp2_with fail
          refine (FR.out _ (.refl _ _)).mono ?_
          rintro e w5 ⟨la, lc, rfl, hL, _, hb⟩
          have B5 := Lib.hid hb
          have Q5 := Lib.hid (Q.out.went hb)
          have L5 := Lib.hid hL
          clear hb hL y0 y1 y2 y3 yf x0 x1 x2 x3 FR
          obtain ⟨y0, y1, y2, y3, yf⟩ := Q5.out.four
          have hq5 : q < w5.heap.size := Q5.out.lt
          go_wp2_with fail
          refine (ON.out la lc w5 B5.out L5.out hfl).mono ?_
          rintro e w6 ⟨⟨b1, e1, b2, e2, b3, e3⟩, rfl, hG6, hb⟩
          have l2 : Below wr.heap.size wr w6 := Gr.step B5.out hb
          obtain ⟨z0, z1, z2, z3, zf⟩ := (Z.out.went l2).four
          have hz6 : w.heap.size + 1 < w6.heap.size := (Z.out.went l2).lt
          have hz5 : w.heap.size + 1 < w5.heap.size := (Z.out.went B5.out).lt
          clear hb y0 y1 y2 y3 yf
          go_wp2
          have hF4 := Rw.fr_set4 w6 (w.heap.size + 1) (.slice b1 (trimG G).terms.length e1) (.slice b2 (trimG G).nons.length e2) (.slice b3 (trimG G).rules.length e3) (.int .i64 (trimG G).start)
          have GN := (GNew.fr hG6 hF4 (fun k hk => by omega)).mono (n := w.heap.size) (by omega)
          have BL2 := Rw.below_set4 (q := w.heap.size + 1) (Gr.step BX.out l2) (by omega) (.slice b1 (trimG G).terms.length e1) (.slice b2 (trimG G).nons.length e2) (.slice b3 (trimG G).rules.length e3) (.int .i64 (trimG G).start)
          try simp only [Exit.inBlock, Exit.then]
          refine bodyPost_ret (v := .tuple #[gv ⟨b1, e1, b2, e2, b3, e3⟩ (trimG G), .bool true]) (by simp [results, Tryz.results9, go_sem, z0, z1, z2, z3]; exact ⟨rfl, rfl, rfl, rfl⟩) rfl ⟨⟨b1, e1, b2, e2, b3, e3⟩, ?_, ?_, BL2⟩
          · rw [E1.out, E2.out]
          · rw [E2.out]
            exact GN
    · obtain ⟨e1, e2⟩ := trim_no (G := G) fun hk => hin ((mem_prodL hc).2 hk.2)
      have E1 := Lib.hid e1
      have E2 := Lib.hid e2
      rw [decide_eq_false hin] at HS
      clear hc hin e1 e2
      obtain ⟨z0, z1, z2, z3, zf⟩ := Z2.out.four
      go_wp2_with (go_at_call 24; refine (eqs HS.out).mono ?_; rintro e w3 ⟨rfl, rfl⟩)
      have BL2 := Rw.below_set4 (q := w.heap.size + 1) X2.out.below (by omega) (.slice none 0 0) (.slice none 0 0) (.slice none 0 0) (.int .i64 0)
      try simp only [Exit.inBlock, Exit.then]
      refine bodyPost_ret (v := .tuple #[.agg #[.slice none 0 0, .slice none 0 0, .slice none 0 0, .int .i64 0], .bool false]) (by simp [results, Tryz.results9, go_sem, z0, z1, z2, z3]) rfl ⟨⟨none, 0, none, 0, none, 0⟩, ?_, ?_, BL2⟩
      · rw [E1.out, E2.out]
        rfl
      · rw [E2.out]
        exact no_new _ _
  · obtain ⟨e1, e2⟩ := trim_no (G := G) fun hk => hc hk.1
    have E1 := Lib.hid e1
    have E2 := Lib.hid e2
    have hcb : (checkN G != 0) = true := by simpa using hc
    clear hc e1 e2
    generalize checkN G = ck at *
    go_wp2_with fail
    refine (C.out _ X1.out.below).mono ?_
    rintro e w2 ⟨rfl, hb⟩
    have X2 := Lib.hid (X1.out.went hb)
    obtain ⟨z0, z1, z2, z3, zf⟩ := (Z1.out.went hb).four
    clear hb x0 x1 x2 x3
    go_wp2
    have BL2 := Rw.below_set4 (q := w.heap.size + 1) X2.out.below (by omega) (.slice none 0 0) (.slice none 0 0) (.slice none 0 0) (.int .i64 0)
    try simp only [Exit.inBlock, Exit.then]
    refine bodyPost_ret (v := .tuple #[.agg #[.slice none 0 0, .slice none 0 0, .slice none 0 0, .int .i64 0], .bool false]) (by simp [results, Tryz.results9, go_sem, z0, z1, z2, z3]) rfl ⟨⟨none, 0, none, 0, none, 0⟩, ?_, ?_, BL2⟩
    · rw [E1.out, E2.out]
      rfl
    · rw [E2.out]
      exact no_new _ _

end Go.Proofs.YtljblpekpmgmaaaGreatDoor.Lv
