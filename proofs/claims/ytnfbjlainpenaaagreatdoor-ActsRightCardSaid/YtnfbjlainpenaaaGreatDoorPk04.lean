/- A part of the proof. -/
import Derived.Test.YtnfbjlainpenaaaGreatDoorPk03
import Derived.Laws.BytesArg
set_option linter.unusedVariables false
namespace Go.Proofs.YtnfbjlainpenaaaGreatDoor
namespace Au
open Gr (Gram)
open Im
def zAH (ks : List (List Itm)) (i : Nat) : List Itm := ks.getD i []
theorem zA0 {ks more : List (List Itm)} {i : Nat} (h : i < ks.length) : zAH (ks ++ more) i = zAH ks i := by
 unfold zAH
 rw [List.getD_eq_getElem?_getD, List.getD_eq_getElem?_getD, List.getElem?_append_left h]
theorem zBH {ks : List (List Itm)} {i : Nat} (h : i < ks.length) : zAH ks i = ks[i] := by
 unfold zAH
 rw [List.getD_eq_getElem?_getD, List.getElem?_eq_getElem h]
 rfl
theorem zAs {ks : List (List Itm)} {i : Nat} (h : i < ks.length) : zAH ks i ∈ ks := by
 rw [zBH h]
 exact List.getElem_mem h
theorem zOw {ks : List (List Itm)} {k : List Itm} (h : k ∈ ks) : ks.idxOf k < ks.length /\ zAH ks (ks.idxOf k) = k := by
 have h1 := List.idxOf_lt_length_of_mem h
 refine ⟨h1, ?_⟩
 rw [zBH h1]
 exact List.getElem_idxOf h1
structure WholeOk (G : Gram) (top : Nat) (q : Whole) : Prop where
 le : q.2.length <= q.1.length
 pos : 0 < q.1.length
 nodup : q.1.Nodup
 zero : zAH q.1 0 = [((G.rules.length : Int), 0)]
 good : ∀ k ∈ q.1, k ≠ [] /\ Srt k /\ ∀ x ∈ k, zAJ G x = true
 trans : ∀ i, i < q.2.length -> q.2.getD i [] = zAx G q.1 (clL G (zAH q.1 i)) top
 here : ∀ i, i < q.2.length -> ∀ s, s < top -> stL G (clL G (zAH q.1 i)) ((s + 1 : Nat) : Int) ≠ [] -> stL G (clL G (zAH q.1 i)) ((s + 1 : Nat) : Int) ∈ q.1
 early : ∀ t, 0 < t -> t < q.1.length -> ∃ i s, i < t /\ i < q.2.length /\ s < top /\ zAH q.1 t = stL G (clL G (zAH q.1 i)) ((s + 1 : Nat) : Int)
theorem WholeOk.start (G : Gram) (top : Nat) : WholeOk G top (runs G top 0) := by
 refine ⟨by simp [runs], by simp [runs], by simp [runs], rfl, fun k hk => ?_, fun i hi => by simp [runs] at hi, fun i hi => by simp [runs] at hi, fun t h1 h2 => ?_⟩
 ·simp only [runs, List.mem_singleton] at hk
  subst hk
  refine ⟨by simp, zEK _, fun x hx => ?_⟩
  rw [List.mem_singleton] at hx
  subst hx
  exact zA5 (Nat.le_refl _)
 ·simp only [runs, List.length_cons, List.length_nil] at h2
  omega
theorem WholeOk.next {G : Gram} {top : Nat} {q : Whole} (h : WholeOk G top q) : WholeOk G top (rnd G top q) := by
 by_cases hq : q.2.length < q.1.length
 ·rw [zIA hq, ← zBH hq]
  have H := zFF (G := G) (c := clL G (zAH q.1 q.2.length)) h.nodup top
  generalize zCV G (clL G (zAH q.1 q.2.length)) top (q.1, []) = p at H
  obtain ⟨more, e, hm⟩ := H.front
  have hl : q.1.length <= p.1.length := by rw [e, List.length_append]; omega
  refine ⟨by dsimp only; rw [List.length_append]; simp; omega, by have := h.pos; dsimp only; omega, H.nodup, ?_, fun k hk => ?_, fun i hi => ?_, fun i hi s hs hn => ?_, fun t h1 h2 => ?_⟩
  ·dsimp only
   rw [e, zA0 h.pos]
   exact h.zero
  ·dsimp only at hk
   rw [e] at hk
   rcases List.mem_append.1 hk with hk | hk
   ·exact h.good k hk
   ·obtain ⟨i, _, h1, h2⟩ := hm k hk
    have hs := zD3 G (clL G (zAH q.1 q.2.length)) ((i + 1 : Nat) : Int)
    rw [← h1] at hs
    exact ⟨h2, hs.1, fun x hx => (zCR ((hs.2 x).1 hx)).1⟩
  ·dsimp only at hi ⊢
   rw [List.length_append, List.length_singleton] at hi
   by_cases k : i < q.2.length
   ·rw [List.getD_eq_getElem?_getD, List.getElem?_append_left k, ← List.getD_eq_getElem?_getD, h.trans i k, e, zA0 (by omega), zEL more fun s hs hn => h.here i k s hs hn]
   ·obtain rfl : i = q.2.length := by omega
    rw [List.getD_eq_getElem?_getD, List.getElem?_append_right (Nat.le_refl _)]
    simp only [Nat.sub_self, List.getElem?_cons_zero, Option.getD_some]
    rw [H.trans, show zAH p.1 q.2.length = zAH q.1 q.2.length from by rw [e, zA0 hq]]
  ·dsimp only at hi hn ⊢
   rw [List.length_append, List.length_singleton] at hi
   have hi' : i < q.1.length := by omega
   rw [show zAH p.1 i = zAH q.1 i from by rw [e, zA0 hi']] at hn ⊢
   by_cases k : i < q.2.length
   ·rw [e]
    exact List.mem_append.2 (.inl (h.here i k s hs hn))
   ·obtain rfl : i = q.2.length := by omega
    exact H.here s hs hn
  ·dsimp only at h2 ⊢
   by_cases k : t < q.1.length
   ·obtain ⟨i, s, a1, a2, a3, a4⟩ := h.early t h1 k
    refine ⟨i, s, a1, by rw [List.length_append]; omega, a3, ?_⟩
    rw [e, zA0 k, zA0 (by omega)]
    exact a4
   ·have hmem : zAH p.1 t ∈ more := by
     rw [zBH h2]
     simp only [e, List.getElem_append_right (Nat.le_of_not_lt k)]
     exact List.getElem_mem _
    obtain ⟨s, a1, a2, _⟩ := hm _ hmem
    refine ⟨q.2.length, s, by omega, by rw [List.length_append]; simp, a1, ?_⟩
    rw [a2, e, zA0 hq]
 ·unfold rnd
  rw [List.getElem?_eq_none (by omega)]
  exact h
theorem zEI (G : Gram) (top : Nat) : ∀ n, WholeOk G top (runs G top n)
 | 0 => .start G top
 | n + 1 => (zEI G top n).next
theorem zQh {G : Gram} {top : Nat} {q : Whole} (h : q.2.length < q.1.length) : (rnd G top q).2.length = q.2.length + 1 := by
 rw [zIA h]
 simp
theorem zIF {G : Gram} {top : Nat} : ∀ {n : Nat}, (∀ m, m < n -> (runs G top m).2.length < (runs G top m).1.length) -> (runs G top n).2.length = n
 | 0, _ => rfl
 | n + 1, h => by
  show (rnd G top (runs G top n)).2.length = n + 1
  rw [zQh (h n (by omega)), zIF fun m hm => h m (by omega)]
theorem zAn {G : Gram} {ks : List (List Itm)} {c : List Itm} {n : Nat} {s t : Int} : (s, t) ∈ zAx G ks c n ↔ ∃ i, i < n /\ s = ((i + 1 : Nat) : Int) /\ stL G c s ≠ [] /\ t = (ks.idxOf (stL G c s) : Int) := by
 unfold zAx
 rw [List.mem_filterMap]
 constructor
 ·rintro ⟨i, hi, h⟩
  split at h
  ·cases h
  ·rename_i hn
   injection h with h
   injection h with h1 h2
   subst h1
   exact ⟨i, List.mem_range.1 hi, rfl, hn, h2.symm⟩
 ·rintro ⟨i, hi, rfl, hn, rfl⟩
  exact ⟨i, List.mem_range.2 hi, if_neg hn⟩
def leads (tr : List (Int × Int)) (s : Int) : Int := ((tr.find? fun x => decide (x.1 = s)).map (·.2)).getD (-1)
theorem zD7 {G : Gram} {ks : List (List Itm)} {c : List Itm} {n i : Nat} (hi : i < n) (hn : stL G c ((i + 1 : Nat) : Int) ≠ []) : leads (zAx G ks c n) ((i + 1 : Nat) : Int) = (ks.idxOf (stL G c ((i + 1 : Nat) : Int)) : Int) := by
 unfold leads
 have key : ∀ x ∈ zAx G ks c n, decide (x.1 = ((i + 1 : Nat) : Int)) = true -> x.2 = (ks.idxOf (stL G c ((i + 1 : Nat) : Int)) : Int) := by
  rintro ⟨s, t⟩ hx hd
  obtain ⟨j, hj, h1, h2, h3⟩ := zAn.1 hx
  have hd' : s = ((i + 1 : Nat) : Int) := of_decide_eq_true hd
  dsimp only
  rw [← hd']
  exact h3
 have hm : ((((i + 1 : Nat) : Int), (ks.idxOf (stL G c ((i + 1 : Nat) : Int)) : Int)) : Int × Int) ∈ zAx G ks c n := zAn.2 ⟨i, hi, rfl, hn, rfl⟩
 cases hf : (zAx G ks c n).find? fun x => decide (x.1 = ((i + 1 : Nat) : Int)) with
 | none =>
  have := List.find?_eq_none.1 hf _ hm
  simp at this
 | some x => exact key x (List.mem_of_find?_eq_some hf) (List.find?_some (p := fun x : Int × Int => decide (x.1 = ((i + 1 : Nat) : Int))) hf)
end Au
namespace Au
open Gr (Gram checkN zAX zAE zAU top zAj zAt zAg zAV)
open Im
def Stop (q : Whole) : Prop := 2000 < q.1.length \/ q.2.length = q.1.length
def zDO (G : Gram) (n : Nat) : Prop := Stop (runs G (top G) n) /\ ∀ m, m < n -> ¬ Stop (runs G (top G) m)
theorem zDO.uniq {G : Gram} {n m : Nat} (h : zDO G n) (k : zDO G m) : n = m := by
 rcases Nat.lt_trichotomy n m with q | q | q
 ·exact absurd h.1 (k.2 n q)
 ·exact q
 ·exact absurd k.1 (h.2 m q)
theorem zBB {G : Gram} (hv : checkN G = 0) {r : Int} (hr : zAU G r = true) {d : Nat} (hd : d < (zAE G r).2.length) : 1 <= (zAE G r).2[d] /\ (zAE G r).2[d] <= (top G : Int) := by
 have hk := (zAX hv).2.2.2.1
 have hb : 0 <= r /\ r <= (G.rules.length : Int) := by
  unfold zAU at hr
  exact of_decide_eq_true hr
 obtain ⟨i, rfl⟩ := Int.eq_ofNat_of_zero_le hb.1
 simp only [zAj, Bool.and_eq_true, List.all_eq_true, decide_eq_true_eq] at hk
 by_cases e : i = G.rules.length
 ·subst e
  have h2 := (zAg G).2
  have h3 := zAV.1 hk.1
  have e1 : (zAE G ((G.rules.length : Nat) : Int)).2 = [G.start] := by rw [h2]
  have e0 : (zAE G ((G.rules.length : Nat) : Int)).2[d] = G.start := by
   have : d = 0 := by rw [e1] at hd; simp at hd; omega
   subst this
   simp only [e1, List.getElem_cons_zero]
  rw [e0]
  unfold top
  omega
 ·have hi : i < G.rules.length := by omega
  have h2 := (zAt hi).2
  have hm := (hk.2 _ (List.getElem_mem hi)).2
  have hin : (zAE G (i : Int)).2[d] ∈ (zAE G (i : Int)).2 := List.getElem_mem hd
  have e1 : (zAE G (i : Int)).2 = (G.rules[i]).2 := by rw [h2]
  rw [← e1] at hm
  exact hm _ hin
theorem zBN {G : Gram} {r : Int} {d : Nat} (hr : zAU G r = true) (hd : d < (zAE G r).2.length) : behB G (r, (d : Int)) = true /\ behV G (r, (d : Int)) = (zAE G r).2[d] := by
 have hb : behB G (r, (d : Int)) = true := by
  rw [zAf]
  refine ⟨?_, by unfold rlen; dsimp only; omega⟩
  unfold zAJ rlen
  rw [hr, Bool.true_and, decide_eq_true_iff]
  dsimp only
  omega
 refine ⟨hb, ?_⟩
 unfold behV
 rw [if_pos hb]
 simp [hd]
def zGu (G : Gram) (s : Int) (x : Itm) : Prop := zAU G x.1 = true /\ 1 <= x.2 /\ x.2 <= (rlen G x.1 : Int) /\ (zAE G x.1).2.getD (x.2 - 1).toNat 0 = s
theorem zHP {G : Gram} {L : List Itm} {s : Int} {x : Itm} (h : zJf G L s x) : zGu G s x := by
 obtain ⟨y, _, h1, h2, rfl⟩ := h
 obtain ⟨h3, h4⟩ := zAf.1 h1
 obtain ⟨h5, h6⟩ := zAN.1 h3
 refine ⟨?_, by dsimp only; omega, by dsimp only; omega, ?_⟩
 ·unfold zAU
  exact decide_eq_true h5
 ·unfold behV at h2
  rw [if_pos h1] at h2
  dsimp only
  rw [show (y.2 + 1 - 1).toNat = y.2.toNat from by congr 1; omega]
  exact h2
structure Done (G : Gram) (q : Whole) : Prop where
 ok : WholeOk G (top G) q
 all : q.2.length = q.1.length
theorem Done.to {G : Gram} {q : Whole} (h : Done G q) {k : Nat} (hk : k < q.1.length) {s t : Int} (hm : (s, t) ∈ q.2.getD k []) : ∃ n : Nat, t = (n : Int) /\ n < q.1.length /\ zAH q.1 n = stL G (clL G (zAH q.1 k)) s := by
 have hl : k < q.2.length := by rw [h.all]; exact hk
 rw [h.ok.trans k hl] at hm
 obtain ⟨i, hi, rfl, hn, rfl⟩ := zAn.1 hm
 have := zOw (h.ok.here k hl i hi hn)
 exact ⟨_, rfl, this.1, this.2⟩
theorem Done.enters {G : Gram} {q : Whole} (h : Done G q) {k : Nat} (hk : k < q.1.length) {s t : Int} (hm : (s, t) ∈ q.2.getD k []) : ∃ n : Nat, t = (n : Int) /\ n < q.1.length /\ ∀ x ∈ zAH q.1 n, zGu G s x := by
 obtain ⟨n, h1, h2, h3⟩ := h.to hk hm
 refine ⟨n, h1, h2, fun x hx => ?_⟩
 rw [h3] at hx
 exact zHP (((zD3 _ _ _).2 x).1 hx)
theorem Done.early {G : Gram} {q : Whole} (h : Done G q) {t : Nat} (h0 : 0 < t) (ht : t < q.1.length) : ∃ k s, k < t /\ (s, (t : Int)) ∈ q.2.getD k [] := by
 obtain ⟨k, i, h1, h2, h3, h4⟩ := h.ok.early t h0 ht
 refine ⟨k, ((i + 1 : Nat) : Int), h1, ?_⟩
 rw [h.ok.trans k h2]
 refine zAn.2 ⟨i, h3, rfl, ?_, ?_⟩
 ·rw [← h4]
  exact (h.ok.good _ (zAs ht)).1
 ·rw [← h4, zBH ht]
  congr 1
  exact (h.ok.nodup.idxOf_getElem t ht).symm
theorem Done.some {G : Gram} {q : Whole} (h : Done G q) {t : Nat} (ht : t < q.1.length) : zAH q.1 t ≠ [] := (h.ok.good _ (zAs ht)).1
def zKW (n : Nat) (ts : List (List (Int × Int))) (i s : Int) : Int := if 0 <= i /\ i < (n : Int) then leads (ts.getD i.toNat []) s else -1
def zDY (n : Nat) (ts : List (List (Int × Int))) (i : Int) : List Int -> Int
 | [] => if 0 <= i /\ i < (n : Int) then i else -1
 | s :: way => if 0 <= i /\ i < (n : Int) then zDY n ts (zKW n ts i s) way else -1
theorem walk_nil {n : Nat} {ts : List (List (Int × Int))} {i : Nat} (h : i < n) : zDY n ts (i : Int) [] = (i : Int) := by
 unfold zDY
 rw [if_pos ⟨by omega, by omega⟩]
theorem zMM {n : Nat} {ts : List (List (Int × Int))} {i : Nat} (h : i < n) (s : Int) (way : List Int) : zDY n ts (i : Int) (s :: way) = zDY n ts (leads (ts.getD i []) s) way := by
 show (if 0 <= (i : Int) /\ (i : Int) < (n : Int) then zDY n ts (zKW n ts i s) way else -1) = _
 rw [if_pos ⟨by omega, by omega⟩]
 unfold zKW
 rw [if_pos ⟨by omega, by omega⟩, Int.toNat_natCast]
theorem Done.one {G : Gram} {q : Whole} (h : Done G q) (hv : checkN G = 0) {i : Nat} (hi : i < q.1.length) {r : Int} {d : Nat} (hr : zAU G r = true) (hd : d < (zAE G r).2.length) (hx : (r, (d : Int)) ∈ clL G (zAH q.1 i)) :
  ∃ j : Nat, j < q.1.length /\ leads (q.2.getD i []) (zAE G r).2[d] = (j : Int) /\ (r, ((d + 1 : Nat) : Int)) ∈ zAH q.1 j := by
 obtain ⟨b1, b2⟩ := zBN hr hd
 obtain ⟨s1, s2⟩ := zBB hv hr hd
 have hl : i < q.2.length := by rw [h.all]; exact hi
 obtain ⟨m, hm⟩ := Int.eq_ofNat_of_zero_le (show 0 <= (zAE G r).2[d] - 1 by omega)
 have hs : (zAE G r).2[d] = ((m + 1 : Nat) : Int) := by omega
 have hmt : m < top G := by omega
 have hst : (r, ((d + 1 : Nat) : Int)) ∈ stL G (clL G (zAH q.1 i)) ((m + 1 : Nat) : Int) := ((zD3 _ _ _).2 _).2 ⟨(r, (d : Int)), hx, b1, by rw [b2, hs], by simp⟩
 have hn : stL G (clL G (zAH q.1 i)) ((m + 1 : Nat) : Int) ≠ [] := fun e => by rw [e] at hst; cases hst
 have hin := zOw (h.ok.here i hl m hmt hn)
 refine ⟨_, hin.1, ?_, by rw [hin.2]; exact hst⟩
 rw [hs, h.ok.trans i hl, zD7 hmt hn]
theorem Done.way {G : Gram} {q : Whole} (h : Done G q) (hv : checkN G = 0) {r : Int} (hr : zAU G r = true) : ∀ (m d : Nat) (i : Nat), d + m = (zAE G r).2.length -> i < q.1.length -> (r, (d : Int)) ∈ clL G (zAH q.1 i) -> (0 < m \/ (r, (d : Int)) ∈ zAH q.1 i) ->
  ∃ j : Nat, j < q.1.length /\ zDY q.1.length q.2 (i : Int) ((zAE G r).2.drop d) = (j : Int) /\ (r, ((zAE G r).2.length : Int)) ∈ zAH q.1 j
 | 0, d, i, e, hi, _, hx => by
  have hx' : (r, (d : Int)) ∈ zAH q.1 i := by
   rcases hx with q | q
   ·omega
   ·exact q
  have hd : d = (zAE G r).2.length := by omega
  refine ⟨i, hi, ?_, by rw [← hd]; exact hx'⟩
  rw [hd, List.drop_length, walk_nil hi]
 | m + 1, d, i, e, hi, hx, _ => by
  have hd : d < (zAE G r).2.length := by omega
  obtain ⟨j, h1, h2, h3⟩ := h.one hv hi hr hd hx
  have hcl : (r, ((d + 1 : Nat) : Int)) ∈ clL G (zAH q.1 j) := ((zEV _ _).2 _).2 (.of h3 ((h.ok.good _ (zAs h1)).2.2 _ h3))
  obtain ⟨k, k1, k2, k3⟩ := Done.way h hv hr m (d + 1) j (by omega) h1 hcl (.inr h3)
  refine ⟨k, k1, ?_, k3⟩
  rw [List.drop_eq_getElem_cons hd, zMM hi, h2]
  exact k2
theorem Done.spells {G : Gram} {q : Whole} (h : Done G q) (hv : checkN G = 0) {i : Nat} (hi : i < q.1.length) {r : Int} (hr : zAU G r = true) (h0 : (zAE G r).2.length ≠ 0) (hx : (r, 0) ∈ clL G (zAH q.1 i)) :
  ∃ j : Nat, j < q.1.length /\ zDY q.1.length q.2 (i : Int) (zAE G r).2 = (j : Int) /\ (r, ((zAE G r).2.length : Int)) ∈ zAH q.1 j :=
 h.way hv hr _ 0 i (Nat.zero_add _) hi hx (.inl (by omega))
def states (q : Whole) : List (List Itm × List (Int × Int)) := q.1.zip q.2
theorem zAc {q : Whole} (h : q.2.length = q.1.length) : (states q).length = q.1.length := by
 unfold states
 rw [List.length_zip, h, Nat.min_self]
theorem zBm {q : Whole} (h : q.2.length = q.1.length) {i : Nat} (hi : i < q.1.length) : (states q)[i]? = some (zAH q.1 i, q.2.getD i []) := by
 unfold states
 rw [List.getElem?_zip_eq_some]
 have hi2 : i < q.2.length := by omega
 refine ⟨?_, ?_⟩
 ·rw [List.getElem?_eq_getElem hi, zBH hi]
 ·rw [List.getElem?_eq_getElem hi2, List.getD_eq_getElem?_getD, List.getElem?_eq_getElem hi2]
  rfl
theorem zDO.done {G : Gram} {n : Nat} (h : zDO G n) (k : ¬ 2000 < (runs G (top G) n).1.length) : Done G (runs G (top G) n) :=
 ⟨zEI G (top G) n, h.1.resolve_left k⟩
inductive Built (G : Gram) : Int -> List (List Itm × List (Int × Int)) -> Prop
 | bad : checkN G ≠ 0 -> Built G (checkN G) []
 | many {n : Nat} : checkN G = 0 -> zDO G n -> 2000 < (runs G (top G) n).1.length -> Built G 7 []
 | all {n : Nat} : checkN G = 0 -> zDO G n -> ¬ 2000 < (runs G (top G) n).1.length -> Built G 0 (states (runs G (top G) n))
theorem Built.uniq {G : Gram} {e f : Int} {X Y : List (List Itm × List (Int × Int))} (h : Built G e X) (k : Built G f Y) : e = f /\ X = Y := by
 cases h with
 | bad h1 =>
  cases k with
  | bad _ => exact ⟨rfl, rfl⟩
  | many k1 _ _ => exact absurd k1 h1
  | all k1 _ _ => exact absurd k1 h1
 | many h1 h2 h3 =>
  cases k with
  | bad k1 => exact absurd h1 k1
  | many _ _ _ => exact ⟨rfl, rfl⟩
  | all _ k2 k3 =>
   rw [h2.uniq k2] at h3
   exact absurd h3 k3
 | all h1 h2 h3 =>
  cases k with
  | bad k1 => exact absurd h1 k1
  | many _ k2 k3 =>
   rw [h2.uniq k2] at h3
   exact absurd k3 h3
  | all _ k2 _ =>
   rw [h2.uniq k2]
   exact ⟨rfl, rfl⟩
def zGe (G : Gram) (n : Nat) : Prop := ∀ m, m < n -> ¬ Stop (runs G (top G) m)
theorem zIu (G : Gram) : zGe G 0 := fun m h => absurd h (Nat.not_lt_zero m)
theorem zGe.next {G : Gram} {n : Nat} (h : zGe G n) (k : ¬ Stop (runs G (top G) n)) : zGe G (n + 1) := fun m hm => by
 by_cases e : m = n
 ·rw [e]
  exact k
 ·exact h m (by omega)
theorem zGe.stop {G : Gram} {n : Nat} (h : zGe G n) (k : Stop (runs G (top G) n)) : zDO G n := ⟨k, h⟩
theorem zGe.len {G : Gram} {n : Nat} (h : zGe G n) : (runs G (top G) n).2.length = n := zIF fun m hm => by
 have h1 := h m hm
 have h2 := (zEI G (top G) m).le
 unfold Stop at h1
 omega
end Au
namespace Au
open Gr (Gram checkN zAE zAU top)
open Im
open It (isIn num zBr zO5)
def kb (x : Itm) : List Int := [x.1 % 256, x.1 / 256 % 256, x.2 % 256]
def keyL (L : List Itm) : List Int := L.flatMap kb
def keyB (L : List Itm) : ByteArray := strOfNums (keyL L)
def Fit3 (L : List Itm) : Prop := ∀ x ∈ L, (0 <= x.1 /\ x.1 < 65536) /\ 0 <= x.2 /\ x.2 < 256
theorem zD4 (x : Itm) : (kb x).length = 3 := rfl
theorem zD5 (L : List Itm) : (keyL L).length = L.length * 3 := by
 unfold keyL
 induction L with
 | nil => rfl
 | cons x L ih =>
  rw [List.flatMap_cons, List.length_append, ih, zD4, List.length_cons]
  omega
theorem zKv (L : List Itm) (x : Itm) : keyL (L ++ [x]) = keyL L ++ kb x := by simp [keyL]
theorem zF9 (L : List Itm) : ∀ n ∈ keyL L, 0 <= n /\ n < 256 := fun n hn => by
 unfold keyL at hn
 rw [List.mem_flatMap] at hn
 obtain ⟨x, _, h⟩ := hn
 simp only [kb, List.mem_cons, List.not_mem_nil, or_false] at h
 rcases h with rfl | rfl | rfl <;> omega
theorem zRZ {x y : Itm} (hx : (0 <= x.1 /\ x.1 < 65536) /\ 0 <= x.2 /\ x.2 < 256) (hy : (0 <= y.1 /\ y.1 < 65536) /\ 0 <= y.2 /\ y.2 < 256) (h : kb x = kb y) : x = y := by
 simp only [kb, List.cons.injEq, and_true] at h
 obtain ⟨x1, x2⟩ := x
 obtain ⟨y1, y2⟩ := y
 dsimp only at *
 exact Prod.ext (by dsimp only; omega) (by dsimp only; omega)
theorem zHu : ∀ {L M : List Itm}, Fit3 L -> Fit3 M -> keyL L = keyL M -> L = M
 | [], [], _, _, _ => rfl
 | [], y :: M, _, _, h => by simp [keyL, kb] at h
 | x :: L, [], _, _, h => by simp [keyL, kb] at h
 | x :: L, y :: M, hL, hM, h => by
  have h' : kb x ++ keyL L = kb y ++ keyL M := by simpa [keyL] using h
  obtain ⟨h1, h2⟩ := List.append_inj h' (by rw [zD4, zD4])
  rw [zRZ (hL x (List.mem_cons_self ..)) (hM y (List.mem_cons_self ..)) h1, zHu (fun z hz => hL z (List.mem_cons_of_mem _ hz)) (fun z hz => hM z (List.mem_cons_of_mem _ hz)) h2]
theorem bytes_inj : ∀ {a b : List Int}, (∀ n ∈ a, 0 <= n /\ n < 256) -> (∀ n ∈ b, 0 <= n /\ n < 256) -> (a.map fun n => UInt8.ofNat n.toNat) = (b.map fun n => UInt8.ofNat n.toNat) -> a = b
 | [], [], _, _, _ => rfl
 | [], y :: b, _, _, h => by simp at h
 | x :: a, [], _, _, h => by simp at h
 | x :: a, y :: b, ha, hb, h => by
  simp only [List.map_cons, List.cons.injEq] at h
  have h1 := ha x (List.mem_cons_self ..)
  have h2 := hb y (List.mem_cons_self ..)
  have h3 := congrArg UInt8.toNat h.1
  rw [UInt8.toNat_ofNat', UInt8.toNat_ofNat'] at h3
  rw [show x = y by omega, bytes_inj (fun n hn => ha n (List.mem_cons_of_mem _ hn)) (fun n hn => hb n (List.mem_cons_of_mem _ hn)) h.2]
theorem zHt {L M : List Itm} (hL : Fit3 L) (hM : Fit3 M) (h : keyB L = keyB M) : L = M := by
 unfold keyB at h
 have h' : (strOfNums (keyL L)).data.toList = (strOfNums (keyL M)).data.toList := by rw [h]
 rw [strOfNums_data, strOfNums_data] at h'
 exact zHu hL hM (bytes_inj (zF9 L) (zF9 M) h')
theorem zKu (L : List Itm) : (keyB L).size = L.length * 3 := by
 unfold keyB
 rw [strOfNums_size, zD5]
def zBs (ks : List (List Itm)) : List ByteArray := ks.map keyB
theorem zKw {ks : List (List Itm)} {k : List Itm} (hs : ∀ x ∈ ks, Fit3 x) (hk : Fit3 k) : isIn (zBs ks) (keyB k) = true ↔ k ∈ ks := by
 rw [zBr]
 unfold zBs
 rw [List.mem_map]
 constructor
 ·rintro ⟨x, hx, e⟩
  rw [← zHt (hs x hx) hk e]
  exact hx
 ·exact fun h => ⟨k, h, rfl⟩
theorem zQG {ks : List (List Itm)} {k : List Itm} (hs : ∀ x ∈ ks, Fit3 x) (hk : Fit3 k) (hn : ks.Nodup) (h : k ∈ ks) : num (zBs ks) (keyB k) = ks.idxOf k := by
 obtain ⟨hl, e⟩ := zO5 ((zKw hs hk).2 h)
 generalize num (zBs ks) (keyB k) = n at hl e ⊢
 have hl' : n < ks.length := by simpa [zBs] using hl
 have e' : keyB ks[n] = keyB k := by simpa [zBs] using e
 have := zHt (hs _ (List.getElem_mem hl')) hk e'
 rw [← this, hn.idxOf_getElem]
theorem zCz {G : Gram} (hv : checkN G = 0) {x : Itm} (h : zAJ G x = true) : (0 <= x.1 /\ x.1 < 65536) /\ 0 <= x.2 /\ x.2 < 256 := by
 obtain ⟨h1, h2, h3, h4⟩ := zCh hv h
 exact ⟨⟨h1, by omega⟩, h3, by omega⟩
def zL2 (G : Gram) (s : Int) (x : Itm) : Option Itm := if behB G x = true /\ behV G x = s then some (x.1, x.2 + 1) else none
def zAw (G : Gram) (c : List Itm) (s : Int) : List Itm := c.filterMap (zL2 G s)
theorem zOa {G : Gram} {c : List Itm} (h : Srt c) (s : Int) : Is (zAw G c s) (zJf G c s) := by
 refine ⟨?_, fun x => ?_⟩
 ·unfold Srt zAw
  rw [List.pairwise_filterMap]
  refine h.imp fun {a b} hab x hx y hy => ?_
  unfold zL2 at hx hy
  split at hx
  ·split at hy
   ·injection hx with hx
    injection hy with hy
    subst hx
    subst hy
    unfold ltP at hab ⊢
    dsimp only
    omega
   ·cases hy
  ·cases hx
 ·unfold zAw
  rw [List.mem_filterMap]
  constructor
  ·rintro ⟨y, hy, e⟩
   unfold zL2 at e
   split at e
   ·rename_i q
    injection e with e
    exact ⟨y, hy, q.1, q.2, e.symm⟩
   ·cases e
  ·rintro ⟨y, hy, h1, h2, e⟩
   refine ⟨y, hy, ?_⟩
   unfold zL2
   rw [if_pos ⟨h1, h2⟩, e]
theorem zII {G : Gram} {c : List Itm} (h : Srt c) (s : Int) : zAw G c s = stL G c s := (zOa h s).uniq (zD3 G c s)
theorem zE2 (G : Gram) (c : List Itm) (x : Itm) (s : Int) : zAw G (c ++ [x]) s = zAw G c s ++ (if behB G x = true /\ behV G x = s then [(x.1, x.2 + 1)] else []) := by
 unfold zAw
 rw [List.filterMap_append]
 congr 1
 unfold zL2
 by_cases h : behB G x = true /\ behV G x = s
 ·simp [h]
 ·simp [h]
theorem zL4 (G : Gram) (c : List Itm) (s : Int) : (zAw G c s).length <= c.length := List.length_filterMap_le _ _
theorem zLy {G : Gram} (hv : checkN G = 0) (c : List Itm) : stL G c 0 = [] := by
 cases e : stL G c 0 with
 | nil => rfl
 | cons x l =>
  have hx : x ∈ stL G c 0 := by rw [e]; exact List.mem_cons_self ..
  obtain ⟨y, _, h1, h2, _⟩ := ((zD3 G c 0).2 x).1 hx
  exfalso
  obtain ⟨h3, h4⟩ := zAf.1 h1
  obtain ⟨h5, h6⟩ := zAN.1 h3
  obtain ⟨y1, y2⟩ := y
  dsimp only at *
  obtain ⟨d, rfl⟩ := Int.eq_ofNat_of_zero_le h6.1
  have hr : zAU G y1 = true := by
   unfold zAU
   exact decide_eq_true h5
  have hd : d < (zAE G y1).2.length := by
   unfold rlen at h4
   omega
  have := (zBN hr hd).2
  have := zBB hv hr hd
  omega
def hits (tr : List (Int × Int)) (s : Int) : Option Int := (tr.find? fun x => decide (x.1 = s)).map (·.2)
theorem zKa {tr : List (Int × Int)} {s t : Int} (h : ∀ x ∈ tr, x.1 ≠ s) (z : Int) : hits (tr ++ [(s, t)]) z = if z = s then some t else hits tr z := by
 unfold hits
 rw [List.find?_append]
 by_cases e : z = s
 ·subst e
  rw [if_pos rfl, List.find?_eq_none.2 fun x hx => by simpa using h x hx]
  simp
 ·rw [if_neg e]
  cases tr.find? fun x => decide (x.1 = z) with
  | none => simp [Ne.symm e]
  | some x => simp
theorem zEm {G : Gram} {ks : List (List Itm)} {c : List Itm} {n i : Nat} : hits (zAx G ks c n) ((i + 1 : Nat) : Int) = if i < n /\ stL G c ((i + 1 : Nat) : Int) ≠ [] then some (ks.idxOf (stL G c ((i + 1 : Nat) : Int)) : Int) else none := by
 unfold hits
 cases hf : (zAx G ks c n).find? fun x => decide (x.1 = ((i + 1 : Nat) : Int)) with
 | none =>
  rw [if_neg]
  ·rfl
  ·rintro ⟨h1, h2⟩
   have hm : ((((i + 1 : Nat) : Int), (ks.idxOf (stL G c ((i + 1 : Nat) : Int)) : Int)) : Int × Int) ∈ zAx G ks c n := zAn.2 ⟨i, h1, rfl, h2, rfl⟩
   have := List.find?_eq_none.1 hf _ hm
   simp at this
 | some x =>
  obtain ⟨s, t⟩ := x
  have hx := List.mem_of_find?_eq_some hf
  have hd : s = ((i + 1 : Nat) : Int) := of_decide_eq_true (List.find?_some (p := fun x : Int × Int => decide (x.1 = ((i + 1 : Nat) : Int))) hf)
  obtain ⟨j, hj, h1, h2, h3⟩ := zAn.1 hx
  obtain rfl : j = i := by omega
  subst hd
  rw [if_pos ⟨hj, h2⟩]
  simp [h3]
theorem zKb {G : Gram} {ks : List (List Itm)} {c : List Itm} {n : Nat} : hits (zAx G ks c n) 0 = none := by
 unfold hits
 cases hf : (zAx G ks c n).find? fun x => decide (x.1 = 0) with
 | none => rfl
 | some x =>
  obtain ⟨s, t⟩ := x
  have hx := List.mem_of_find?_eq_some hf
  have hd : s = 0 := of_decide_eq_true (List.find?_some (p := fun x : Int × Int => decide (x.1 = 0)) hf)
  obtain ⟨j, hj, h1, _, _⟩ := zAn.1 hx
  omega
def tgt (ts : List (List (Int × Int))) (x : Itm) : Option Int := if 0 <= x.1 then hits (ts.getD x.1.toNat []) x.2 else none
theorem zQs (x : Itm) : tgt [] x = none := by
 unfold tgt
 split <;> simp [hits]
theorem zOf (ts : List (List (Int × Int))) (x : Itm) : tgt (ts ++ [[]]) x = tgt ts x := by
 unfold tgt
 split
 ·rw [List.getD_eq_getElem?_getD, List.getD_eq_getElem?_getD]
  congr 1
  rcases Nat.lt_trichotomy x.1.toNat ts.length with h | h | h
  ·rw [List.getElem?_append_left h]
  ·rw [List.getElem?_append_right (by omega), h, List.getElem?_eq_none (Nat.le_refl _)]
   simp
  ·rw [List.getElem?_eq_none (by simp; omega), List.getElem?_eq_none (by omega)]
 ·rfl
theorem zQt {ts : List (List (Int × Int))} {tr : List (Int × Int)} {s t : Int} (h : ∀ x ∈ tr, x.1 ≠ s) (x : Itm) : tgt (ts ++ [tr ++ [(s, t)]]) x = if x = ((ts.length : Int), s) then some t else tgt (ts ++ [tr]) x := by
 obtain ⟨a, b⟩ := x
 unfold tgt
 dsimp only
 by_cases h0 : 0 <= a
 ·obtain ⟨n, rfl⟩ := Int.eq_ofNat_of_zero_le h0
  rw [if_pos h0, if_pos h0, List.getD_eq_getElem?_getD, List.getD_eq_getElem?_getD, Int.toNat_natCast]
  rcases Nat.lt_trichotomy n ts.length with q | q | q
  ·rw [List.getElem?_append_left q, List.getElem?_append_left q, if_neg]
   intro e
   injection e with e1 e2
   omega
  ·subst q
   rw [List.getElem?_append_right (Nat.le_refl _), List.getElem?_append_right (Nat.le_refl _)]
   simp only [Nat.sub_self, List.getElem?_cons_zero, Option.getD_some]
   rw [zKa h]
   simp
  ·rw [List.getElem?_eq_none (by simp; omega), List.getElem?_eq_none (by simp; omega), if_neg]
   intro e
   injection e with e1 e2
   omega
 ·rw [if_neg h0, if_neg h0, if_neg]
  intro e
  injection e with e1 e2
  omega
def zBw (ts : List (List (Int × Int))) (i : Int) (n : Nat) : List (Int × Int) := (List.range n).filterMap fun (s : Nat) => (tgt ts (i, (s : Int))).map fun t => ((s : Int), t)
theorem zH8 (ts : List (List (Int × Int))) (i : Int) (n : Nat) : zBw ts i (n + 1) = zBw ts i n ++ (match tgt ts (i, (n : Int)) with | some t => [((n : Int), t)] | none => []) := by
 unfold zBw
 rw [List.range_succ, List.filterMap_append]
 congr 1
 cases h : tgt ts (i, (n : Int)) with
 | none => simp [h]
 | some t => simp [h]
theorem zH7 {ts : List (List (Int × Int))} {i : Int} {n : Nat} {t : Int} (h : tgt ts (i, (n : Int)) = some t) : zBw ts i (n + 1) = zBw ts i n ++ [((n : Int), t)] := by rw [zH8, h]
theorem zFT {ts : List (List (Int × Int))} {i : Int} {n : Nat} (h : tgt ts (i, (n : Int)) = none) : zBw ts i (n + 1) = zBw ts i n := by rw [zH8, h, List.append_nil]
theorem zLZ (ts : List (List (Int × Int))) (i : Int) (n : Nat) : (zBw ts i n).length <= n := by
 unfold zBw
 have := List.length_filterMap_le (fun (s : Nat) => (tgt ts (i, (s : Int))).map fun t => ((s : Int), t)) (List.range n)
 rwa [List.length_range] at this
theorem zLY {G : Gram} {q : Whole} (h : WholeOk G (top G) q) {i : Nat} (hi : i < q.2.length) : zBw q.2 (i : Int) (top G + 1) = q.2.getD i [] := by
 have ht := h.trans i hi
 have key : ∀ s : Int, tgt q.2 ((i : Int), s) = hits (zAx G q.1 (clL G (zAH q.1 i)) (top G)) s := fun s => by
  unfold tgt
  dsimp only
  rw [if_pos (Int.natCast_nonneg i), Int.toNat_natCast, ht]
 rw [ht]
 generalize hc : clL G (zAH q.1 i) = c at key
 generalize hm : top G = m at key
 have sub : ∀ n, n <= m -> zBw q.2 (i : Int) (n + 1) = zAx G q.1 c n := fun n => by
  induction n with
  | zero =>
   intro _
   rw [zFT (by rw [key]; exact zKb)]
   rfl
  | succ n ih =>
   intro hn
   rw [zA1, ← ih (by omega)]
   by_cases he : stL G c ((n + 1 : Nat) : Int) = []
   ·rw [if_pos he, List.append_nil, zFT]
    rw [key, zEm, if_neg fun q => q.2 he]
   ·rw [if_neg he, zH7]
    rw [key, zEm, if_pos ⟨by omega, he⟩]
 exact sub m (Nat.le_refl _)
theorem zEy (G : Gram) (c : List Itm) (ks : List (List Itm)) : ∀ n, ∀ x ∈ (zCV G c n (ks, [])).2, 1 <= x.1 /\ x.1 <= (n : Int)
 | 0, x, hx => by cases hx
 | n + 1, x, hx => by
  have ih := zEy G c ks n
  rw [zBk] at hx
  unfold oneS at hx
  split at hx
  ·have := ih x hx
   omega
  ·rcases List.mem_append.1 hx with q | q
   ·have := ih x q
    omega
   ·rw [List.mem_singleton] at q
    subst q
    dsimp only
    omega
theorem zGL (G : Gram) (c : List Itm) (ks : List (List Itm)) : ∀ n, (zCV G c n (ks, [])).1.length <= ks.length + n
 | 0 => Nat.le_refl _
 | n + 1 => by
  have ih := zGL G c ks n
  rw [zBk]
  unfold oneS
  split
  ·omega
  ·dsimp only
   split
   ·omega
   ·rw [List.length_append, List.length_singleton]
    omega
