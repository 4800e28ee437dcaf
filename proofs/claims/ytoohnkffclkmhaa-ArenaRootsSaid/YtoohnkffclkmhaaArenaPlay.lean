/-
  What calls make, as data: the tree behind k calls of ArenaRoots, its leaves' numbers; all roots together have each leaf once. No program in it.
-/
import Derived.Test.YtoohnkffclkmhaaArenaList
import Derived.Test.YtoohnkffclkmhaaArenaArg
namespace Go.Proofs.Ytoohnkffclkmhaa.Tr
set_option linter.unusedVariables false
set_option linter.unusedSimpArgs false

def stepR (q : List Nd × Nat) (x : OpD) : List Nd × Nat :=
  if x.leaf then (leafT q.1 x.sym q.2, q.2 + 1) else if x.kids.length ≤ 20 then (joinT q.1 x.sym x.n x.kids, q.2) else q
def stR (X : List OpD) (k : Nat) : List Nd × Nat := (X.take k).foldl stepR ([], 0)
theorem stR_zero (X : List OpD) : stR X 0 = ([], 0) := by simp [stR]
theorem stR_succ {X : List OpD} {k : Nat} (h : k < X.length) : stR X (k + 1) = stepR (stR X k) X[k] := by
  unfold stR
  rw [List.take_succ_eq_append_getElem h, List.foldl_append]
  rfl
theorem joinT_len (T : List Nd) (s r : Int) (K : List Int) : (joinT T s r K).length ≤ T.length + 1 ∧ T.length ≤ (joinT T s r K).length := by
  unfold joinT
  split
  · rw [List.length_append, markB_len]
    simp
  · omega
theorem leafT_len (T : List Nd) (s n : Int) : (leafT T s n).length = T.length + 1 := by simp [leafT]
/-- The numbers of the leaves, in their order. -/
def LN (T : List Nd) : List Int := ((List.range T.length).filter fun j => !(ndAt T j).inner).map fun j => (ndAt T j).leaf
theorem ndAt_app {T : List Nd} {n : Nd} {j : Nat} (h : j < T.length) : ndAt (T ++ [n]) j = ndAt T j := by
  unfold ndAt
  rw [List.getD_eq_getElem?_getD, List.getD_eq_getElem?_getD, List.getElem?_append_left h]
theorem ndAt_new (T : List Nd) (n : Nd) : ndAt (T ++ [n]) T.length = n := by simp [ndAt, List.getD_eq_getElem?_getD]
theorem ndAt_mark {T : List Nd} {p : Nat → Bool} {j : Nat} (h : j < T.length) : (ndAt (markB T p) j).inner = (ndAt T j).inner ∧ (ndAt (markB T p) j).leaf = (ndAt T j).leaf := by
  rw [ndAt_get (by rw [markB_len]; exact h), ndAt_get h, markB_get h]
  split <;> exact ⟨rfl, rfl⟩
theorem LN_same {T U : List Nd} (hl : T.length = U.length) (h : ∀ j, j < T.length → (ndAt T j).inner = (ndAt U j).inner ∧ (ndAt T j).leaf = (ndAt U j).leaf) : LN T = LN U := by
  unfold LN
  rw [← hl]
  rw [List.filter_congr (q := fun j => !(ndAt U j).inner) fun j hj => by rw [(h j (List.mem_range.1 hj)).1]]
  exact List.map_congr_left fun j hj => (h j (List.mem_range.1 (List.mem_filter.1 hj).1)).2
theorem LN_app (T : List Nd) (n : Nd) : LN (T ++ [n]) = LN T ++ (if n.inner then [] else [n.leaf]) := by
  unfold LN
  rw [List.length_append, List.length_singleton, List.range_succ, List.filter_append, List.map_append]
  congr 1
  · rw [List.filter_congr (q := fun j => !(ndAt T j).inner) fun j hj => by rw [ndAt_app (List.mem_range.1 hj)]]
    exact List.map_congr_left fun j hj => by rw [ndAt_app (List.mem_range.1 (List.mem_filter.1 hj).1)]
  · cases hn : n.inner <;> simp [List.filter_cons, ndAt_new, hn]
theorem LN_leaf (T : List Nd) (s n : Int) : LN (leafT T s n) = LN T ++ [n] := by
  unfold leafT
  rw [LN_app]
  rfl
theorem LN_join (T : List Nd) (s r : Int) (K : List Int) : LN (joinT T s r K) = LN T := by
  unfold joinT
  split
  · rw [LN_app]
    simp only [joinD, if_true, List.append_nil]
    exact LN_same (markB_len _ _) fun j hj => ndAt_mark (by rwa [markB_len] at hj)
  · rfl
/-- What is known behind k calls. -/
structure PlayIs (q : List Nd × Nat) (k : Nat) : Prop where
  good : Good q.1
  len : q.1.length ≤ k
  num : LN q.1 = (List.range q.2).map Int.ofNat
  few : q.2 ≤ k
theorem play_is (X : List OpD) : ∀ k, k ≤ X.length → PlayIs (stR X k) k := by
  intro k
  induction k with
  | zero =>
    intro _
    rw [stR_zero]
    exact ⟨good_nil, by simp, by simp [LN], Nat.le_refl _⟩
  | succ k ih =>
    intro hk
    have h := ih (by omega)
    rw [stR_succ (by omega)]
    unfold stepR
    split
    · refine ⟨good_leaf h.good _ _, ?_, ?_, ?_⟩
      · dsimp only
        rw [leafT_len]
        have := h.len
        omega
      · dsimp only
        rw [LN_leaf, h.num, List.range_succ, List.map_append]
        rfl
      · have := h.few
        dsimp only
        omega
    · split
      · refine ⟨good_join h.good _ _ _, ?_, ?_, ?_⟩
        · have := (joinT_len (stR X k).1 (X[k]'(by omega)).sym (X[k]'(by omega)).n (X[k]'(by omega)).kids).1
          have := h.len
          dsimp only
          omega
        · dsimp only
          rw [LN_join, h.num]
        · have := h.few
          dsimp only
          omega
      · exact ⟨h.good, by have := h.len; omega, h.num, by have := h.few; omega⟩

/-- All leaves, in the order of the roots. -/
def allL (T : List Nd) : List Int := (rootsP T).flatMap (lefL T fun n => n.leaf)
theorem lefL_nat (T : List Nd) (r : Nat) (f : Nd → Int) : lefL T f (r : Int) = ((seqN T r).filter fun j => !(ndAt T j).inner).map fun j => f (ndAt T j) := by
  unfold lefL lefI belI seqN
  rw [visI_in, List.filter_map, List.map_map]
  rfl
theorem all_perm {T : List Nd} (h : Good T) : List.Perm (allL T) (LN T) := by
  unfold allL LN rootsP
  rw [List.flatMap_map]
  have e : (rootsN T).flatMap (fun a => lefL T (fun n => n.leaf) (Int.ofNat a)) = (((rootsN T).flatMap (seqN T)).filter fun j => !(ndAt T j).inner).map fun j => (ndAt T j).leaf := by
    rw [List.filter_flatMap, List.map_flatMap]
    exact flatMap_same fun r _ => lefL_nat T r _
  rw [e]
  exact (h.once.filter _).map _
theorem count_one {L : List Int} (h : L.Nodup) {x : Int} (hx : x ∈ L) : L.count x = 1 := by
  induction L with
  | nil => cases hx
  | cons a r ih =>
    rw [List.nodup_cons] at h
    rw [List.count_cons]
    rcases List.mem_cons.1 hx with rfl | hx
    · rw [List.count_eq_zero.2 h.1]
      simp
    · rw [ih h.2 hx]
      have : ¬ a = x := fun e => h.1 (e ▸ hx)
      simp [this]
theorem nodup_ofNat {L : List Nat} (h : L.Nodup) : (L.map Int.ofNat).Nodup := by
  induction L with
  | nil => simp
  | cons a r ih =>
    rw [List.nodup_cons] at h
    rw [List.map_cons, List.nodup_cons]
    refine ⟨fun hm => ?_, ih h.2⟩
    obtain ⟨b, hb, e⟩ := List.mem_map.1 hm
    exact h.1 (Int.ofNat.inj e ▸ hb)
theorem all_count {X : List OpD} {k : Nat} (hk : k ≤ X.length) {q : Nat} (hq : q < (stR X k).2) : (allL (stR X k).1).count (q : Int) = 1 := by
  have h := play_is X k hk
  rw [(all_perm h.good).count_eq, h.num]
  refine count_one ?_ (List.mem_map.2 ⟨q, List.mem_range.2 hq, rfl⟩)
  exact nodup_ofNat List.nodup_range
theorem all_in {X : List OpD} {k : Nat} (hk : k ≤ X.length) {y : Int} (hy : y ∈ allL (stR X k).1) : ∃ m : Nat, y = (m : Int) ∧ m < (stR X k).2 := by
  have h := play_is X k hk
  have h1 := (all_perm h.good).mem_iff.1 hy
  rw [h.num] at h1
  obtain ⟨m, hm, rfl⟩ := List.mem_map.1 h1
  exact ⟨m, rfl, List.mem_range.1 hm⟩
theorem all_len {X : List OpD} {k : Nat} (hk : k ≤ X.length) : (allL (stR X k).1).length = (stR X k).2 := by
  have h := play_is X k hk
  rw [(all_perm h.good).length_eq, h.num]
  simp

/-- How often each number has come. -/
def cntV (n : Nat) (D : List Int) : List Value := (List.range n).map fun (q : Nat) => .int .i64 ((D.count (q : Int) : Nat) : Int)
theorem cntV_len (n : Nat) (D : List Int) : (cntV n D).length = n := by simp [cntV]
theorem cntV_get {n : Nat} {D : List Int} {m : Nat} (h : m < n) : (cntV n D)[m]? = some (.int .i64 ((D.count (m : Int) : Nat) : Int)) := by simp [cntV, h]
theorem cntV_set {n : Nat} {D : List Int} {m : Nat} (h : m < n) : (cntV n D).set m (.int .i64 (((D.count (m : Int) : Nat) : Int) + 1)) = cntV n (D ++ [(m : Int)]) := by
  refine List.ext_getElem? fun i => ?_
  rw [List.getElem?_set, cntV_len]
  by_cases hi : m = i
  · subst hi
    rw [if_pos rfl, if_pos h, cntV_get h, List.count_append]
    simp
  · rw [if_neg hi]
    by_cases hin : i < n
    · rw [cntV_get hin, cntV_get hin, List.count_append]
      have : List.count (i : Int) [(m : Int)] = 0 := List.count_eq_zero.2 (by simp; omega)
      rw [this, Nat.add_zero]
    · rw [List.getElem?_eq_none (by rw [cntV_len]; omega), List.getElem?_eq_none (by rw [cntV_len]; omega)]

end Go.Proofs.Ytoohnkffclkmhaa.Tr
