/-
  Parse trees as data: nodes in a list; what is below a node; all roots together have each node once. No program in it.
-/
import Derived.Test.YtoohnkffclkmhaaGramPlain
namespace Go.Proofs.Ytoohnkffclkmhaa.Tr
open Go.Proofs.Ytoohnkffclkmhaa.Gr (Gram nameS termB)
set_option linter.unusedVariables false
set_option linter.unusedSimpArgs false

structure Nd where
  sym : Int
  leaf : Int
  rule : Int
  kids : List Int
  inner : Bool
  taken : Bool

def leafD (s n : Int) : Nd := ⟨s, n, -1, [], false, false⟩
def joinD (s r : Int) (K : List Int) : Nd := ⟨s, -1, r, K, true, false⟩
def inP (T : List Nd) (i : Int) : Bool := decide (0 ≤ i ∧ i < (T.length : Int))
def freeAt (T : List Nd) (j : Nat) : Bool := match T[j]? with | some n => !n.taken | none => false
def freeP (T : List Nd) (i : Int) : Bool := decide (0 ≤ i) && freeAt T i.toNat
def okK (T : List Nd) (K : List Int) : Bool := K.all (freeP T) && decide K.Nodup
def tk (b : Bool) (n : Nd) : Nd := { n with taken := b }
/-- Some nodes taken. -/
def markB (T : List Nd) (p : Nat → Bool) : List Nd := T.mapIdx fun j n => if p j then tk true n else n
def inK (K : List Int) (j : Nat) : Bool := decide ((j : Int) ∈ K)
def leafT (T : List Nd) (s n : Int) : List Nd := T ++ [leafD s n]
def joinT (T : List Nd) (s r : Int) (K : List Int) : List Nd := if okK T K then markB T (inK K) ++ [joinD s r K] else T
def joinR (T : List Nd) (K : List Int) : Int := if okK T K then (T.length : Int) else -1

theorem markB_len (T : List Nd) (p : Nat → Bool) : (markB T p).length = T.length := by simp [markB]
theorem markB_get {T : List Nd} {p : Nat → Bool} {j : Nat} (h : j < T.length) : (markB T p)[j]'(by rw [markB_len]; exact h) = if p j then tk true T[j] else T[j] := by simp [markB]
theorem markB_get? (T : List Nd) (p : Nat → Bool) (j : Nat) : (markB T p)[j]? = (T[j]?).map fun n => if p j then tk true n else n := by simp [markB]
theorem markB_none (T : List Nd) : markB T (fun _ => false) = T := by
  refine List.ext_getElem? fun j => ?_
  rw [markB_get?]
  simp
theorem inK_nil : inK [] = fun _ => false := by funext j; simp [inK]
theorem markB_nil (T : List Nd) : markB T (inK []) = T := by rw [inK_nil, markB_none]
theorem tk_eq {n : Nd} (h : n.taken = false) : tk false n = n := by cases n; subst h; rfl
theorem markB_set (T : List Nd) (p : Nat → Bool) (j : Nat) (x : Nd) (hx : ∀ n, T[j]? = some n → x = tk true n) : (markB T p).set j x = markB T (fun i => p i || i == j) := by
  refine List.ext_getElem? fun i => ?_
  rw [List.getElem?_set, markB_len]
  by_cases hij : j = i
  · subst hij
    by_cases hl : j < T.length
    · simp [hl, hx _ (List.getElem?_eq_getElem hl), markB_get?]
    · simp [hl, markB_get?]
  · have : (i == j) = false := by simp; omega
    simp [hij, this, markB_get?]
theorem markB_unset (T : List Nd) (p : Nat → Bool) (j : Nat) (x : Nd) (hx : ∀ n, T[j]? = some n → x = n) : (markB T p).set j x = markB T (fun i => p i && !(i == j)) := by
  refine List.ext_getElem? fun i => ?_
  rw [List.getElem?_set, markB_len]
  by_cases hij : j = i
  · subst hij
    by_cases hl : j < T.length
    · simp [hl, hx _ (List.getElem?_eq_getElem hl), markB_get?]
    · simp [hl, markB_get?]
  · have : (i == j) = false := by simp; omega
    simp [hij, this, markB_get?]
theorem inK_cons (k : Int) (K : List Int) (hk : 0 ≤ k) : inK (K ++ [k]) = fun i => inK K i || i == k.toNat := by
  funext i
  unfold inK
  rw [Bool.eq_iff_iff]
  simp
  exact or_congr Iff.rfl ⟨fun h => by omega, fun h => by omega⟩
theorem inK_uncons (k : Int) (K : List Int) (hk : 0 ≤ k) (hn : k ∉ K) : (fun i => inK (k :: K) i && !(i == k.toNat)) = inK K := by
  funext i
  unfold inK
  rw [Bool.eq_iff_iff]
  simp
  constructor
  · rintro ⟨h1 | h1, h2⟩
    · exact absurd (by omega) h2
    · exact h1
  · intro h1
    refine ⟨.inr h1, fun h2 => hn ?_⟩
    rwa [show k = (i : Int) by omega]

theorem freeP_iff {T : List Nd} {i : Int} : freeP T i = true ↔ ∃ j : Nat, i = (j : Int) ∧ ∃ n, T[j]? = some n ∧ n.taken = false := by
  unfold freeP freeAt
  constructor
  · intro h
    rw [Bool.and_eq_true, decide_eq_true_eq] at h
    obtain ⟨h1, h2⟩ := h
    refine ⟨i.toNat, by omega, ?_⟩
    cases hn : T[i.toNat]? with
    | none => rw [hn] at h2; cases h2
    | some n =>
      rw [hn] at h2
      exact ⟨n, rfl, by simpa using h2⟩
  · rintro ⟨j, rfl, n, h1, h2⟩
    simp [h1, h2]
theorem freeP_mark {T : List Nd} {K : List Int} {i : Int} : freeP (markB T (inK K)) i = (freeP T i && !decide (i ∈ K)) := by
  rw [Bool.eq_iff_iff, Bool.and_eq_true, freeP_iff, freeP_iff]
  constructor
  · rintro ⟨j, rfl, n, h1, h2⟩
    rw [markB_get?, Option.map_eq_some_iff] at h1
    obtain ⟨m, h1, rfl⟩ := h1
    by_cases hk : inK K j = true
    · rw [if_pos hk] at h2
      cases h2
    · rw [if_neg hk] at h2
      exact ⟨⟨j, rfl, m, h1, h2⟩, by simpa [inK] using hk⟩
  · rintro ⟨⟨j, rfl, n, h1, h2⟩, h3⟩
    refine ⟨j, rfl, n, ?_, h2⟩
    rw [markB_get?, h1]
    have : inK K j = false := by simpa [inK] using h3
    simp [this]
theorem okK_iff {T : List Nd} {K : List Int} : okK T K = true ↔ (∀ k ∈ K, freeP T k = true) ∧ K.Nodup := by
  unfold okK
  rw [Bool.and_eq_true, List.all_eq_true, decide_eq_true_eq]
/-- So far all may be taken. -/
theorem ok_step {T : List Nd} {K : List Int} {k : Nat} (hk : k < K.length) (h : okK T (K.take k) = true) (hf : freeP (markB T (inK (K.take k))) K[k] = true) : okK T (K.take (k + 1)) = true := by
  rw [okK_iff] at h ⊢
  rw [freeP_mark, Bool.and_eq_true] at hf
  have e : K.take (k + 1) = K.take k ++ [K[k]] := (List.take_append_getElem hk).symm
  rw [e]
  refine ⟨fun x hx => ?_, ?_⟩
  · rcases List.mem_append.1 hx with hx | hx
    · exact h.1 x hx
    · rw [List.mem_singleton] at hx
      rw [hx]
      exact hf.1
  · rw [List.nodup_append]
    refine ⟨h.2, by simp, fun a ha b hb => ?_⟩
    rw [List.mem_singleton] at hb
    rintro rfl
    subst hb
    simp at hf
    exact hf.2 ha
theorem ok_fail {T : List Nd} {K : List Int} {k : Nat} (hk : k < K.length) (hf : freeP (markB T (inK (K.take k))) K[k] = false) : okK T K = false := by
  rw [← Bool.not_eq_true, okK_iff]
  rintro ⟨h1, h2⟩
  rw [freeP_mark, h1 _ (List.getElem_mem hk)] at hf
  rw [Bool.true_and, Bool.not_eq_false', decide_eq_true_eq] at hf
  have e : K = K.take k ++ K[k] :: K.drop (k + 1) := by rw [List.getElem_cons_drop, List.take_append_drop]
  rw [e, List.nodup_append] at h2
  exact h2.2.2 _ hf _ (List.mem_cons_self ..) rfl

/-! ### What is below a node -/

/-- The visits of a walk: each node where it is entered; an inner one once more, where it is left. -/
def visF (T : List Nd) : Nat → Nat → List (Nat × Bool)
  | 0, _ => []
  | f + 1, i => match T[i]? with
    | none => []
    | some n => if n.inner then (i, false) :: (n.kids.flatMap fun k => visF T f k.toNat) ++ [(i, true)] else [(i, false)]
def vis (T : List Nd) (i : Nat) : List (Nat × Bool) := visF T (i + 1) i
/-- Children come ahead. -/
def Wf (T : List Nd) : Prop := ∀ (i : Nat) n, T[i]? = some n → ∀ k ∈ n.kids, 0 ≤ k ∧ k < (i : Int)

theorem flatMap_same {α β : Type} {L : List α} {f g : α → List β} (h : ∀ x ∈ L, f x = g x) : L.flatMap f = L.flatMap g := by
  induction L with
  | nil => rfl
  | cons a r ih => rw [List.flatMap_cons, List.flatMap_cons, h a (List.mem_cons_self ..), ih fun x hx => h x (List.mem_cons_of_mem _ hx)]
theorem flatMap_part {α β : Type} (f : α → List β) {L : List α} {x : α} (h : x ∈ L) : (f x).length ≤ (L.flatMap f).length := by
  induction L with
  | nil => cases h
  | cons a r ih =>
    rw [List.flatMap_cons, List.length_append]
    rcases List.mem_cons.1 h with rfl | h
    · omega
    · have := ih h
      omega
theorem visF_enough {T : List Nd} (hw : Wf T) : ∀ (f g i : Nat), i < f → i < g → visF T f i = visF T g i := by
  intro f
  induction f with
  | zero => intro g i h; omega
  | succ f ih =>
    intro g i h1 h2
    cases g with
    | zero => omega
    | succ g =>
      unfold visF
      cases hn : T[i]? with
      | none => rfl
      | some n =>
        dsimp only
        by_cases hi : n.inner = true
        · rw [if_pos hi, if_pos hi, flatMap_same fun k hk => ih g k.toNat (by have := hw i n hn k hk; omega) (by have := hw i n hn k hk; omega)]
        · rw [if_neg hi, if_neg hi]
theorem vis_none {T : List Nd} {i : Nat} (h : T.length ≤ i) : vis T i = [] := by
  unfold vis visF
  rw [List.getElem?_eq_none h]
theorem vis_leaf {T : List Nd} {i : Nat} {n : Nd} (h : T[i]? = some n) (hi : n.inner = false) : vis T i = [(i, false)] := by
  unfold vis visF
  simp [h, hi]
theorem vis_inner {T : List Nd} (hw : Wf T) {i : Nat} {n : Nd} (h : T[i]? = some n) (hi : n.inner = true) : vis T i = (i, false) :: (n.kids.flatMap fun k => vis T k.toNat) ++ [(i, true)] := by
  conv => lhs; unfold vis visF
  simp only [h, hi, if_true]
  rw [flatMap_same fun k hk => visF_enough hw i (k.toNat + 1) k.toNat (by have := hw i n h k hk; omega) (by omega)]
  rfl
/-- By the nodes ahead. -/
theorem below_ind {T : List Nd} (hw : Wf T) {P : Nat → Prop} (h : ∀ i n, T[i]? = some n → (∀ k ∈ n.kids, P k.toNat) → P i) (h0 : ∀ i, T.length ≤ i → P i) : ∀ i, P i := by
  intro i
  induction i using Nat.strongRecOn with
  | ind i ih =>
    by_cases hl : i < T.length
    · exact h i _ (List.getElem?_eq_getElem hl) fun k hk => ih _ (by have := hw i _ (List.getElem?_eq_getElem hl) k hk; omega)
    · exact h0 i (by omega)
/-- Two lists of nodes with one shape ahead of m. -/
theorem vis_same {T U : List Nd} (hw : Wf T) (hu : Wf U) {m : Nat} (h : ∀ i, i < m → ∃ n n', T[i]? = some n ∧ U[i]? = some n' ∧ n.inner = n'.inner ∧ n.kids = n'.kids) : ∀ i, i < m → vis T i = vis U i := by
  intro i
  induction i using Nat.strongRecOn with
  | ind i ih =>
    intro hi
    obtain ⟨n, n', h1, h2, h3, h4⟩ := h i hi
    cases hin : n.inner with
    | false => rw [vis_leaf h1 hin, vis_leaf h2 (by rw [← h3]; exact hin)]
    | true =>
      rw [vis_inner hw h1 hin, vis_inner hu h2 (by rw [← h3]; exact hin), ← h4, flatMap_same fun k hk => ih k.toNat (by have := hw i n h1 k hk; omega) (by have := hw i n h1 k hk; omega)]
theorem vis_in {T : List Nd} (hw : Wf T) : ∀ i, ∀ x ∈ vis T i, x.1 ≤ i ∧ x.1 < T.length := by
  refine below_ind hw (fun i n hn ih => ?_) fun i hi x hx => by rw [vis_none hi] at hx; cases hx
  intro x hx
  have hl := (List.getElem?_eq_some_iff.1 hn).1
  cases hin : n.inner with
  | false =>
    rw [vis_leaf hn hin, List.mem_singleton] at hx
    subst hx
    exact ⟨Nat.le_refl _, hl⟩
  | true =>
    rw [vis_inner hw hn hin] at hx
    simp only [List.cons_append, List.mem_cons, List.mem_append, List.mem_flatMap, List.not_mem_nil, or_false] at hx
    rcases hx with rfl | ⟨k, hk, hx⟩ | rfl
    · exact ⟨Nat.le_refl _, hl⟩
    · have h1 := ih k hk x hx
      have h2 := hw i n hn k hk
      exact ⟨by omega, h1.2⟩
    · exact ⟨Nat.le_refl _, hl⟩

/-- The nodes below a node, each where it is entered. -/
def seqN (T : List Nd) (i : Nat) : List Nat := ((vis T i).filter fun x => !x.2).map Prod.fst
theorem seqN_none {T : List Nd} {i : Nat} (h : T.length ≤ i) : seqN T i = [] := by rw [seqN, vis_none h]; rfl
theorem seqN_leaf {T : List Nd} {i : Nat} {n : Nd} (h : T[i]? = some n) (hi : n.inner = false) : seqN T i = [i] := by rw [seqN, vis_leaf h hi]; rfl
theorem seqN_inner {T : List Nd} (hw : Wf T) {i : Nat} {n : Nd} (h : T[i]? = some n) (hi : n.inner = true) : seqN T i = i :: n.kids.flatMap fun k => seqN T k.toNat := by
  rw [seqN, vis_inner hw h hi]
  simp [List.filter_append, List.filter_flatMap, List.map_flatMap, seqN]
theorem seqN_in {T : List Nd} (hw : Wf T) {i : Nat} : ∀ x ∈ seqN T i, x ≤ i ∧ x < T.length := by
  intro x hx
  obtain ⟨y, hy, rfl⟩ := List.mem_map.1 hx
  exact vis_in hw i y ((List.mem_filter.1 hy).1)
theorem seqN_self {T : List Nd} (hw : Wf T) {i : Nat} (h : i < T.length) : i ∈ seqN T i := by
  have hn := List.getElem?_eq_getElem h
  cases hin : T[i].inner with
  | false => rw [seqN_leaf hn hin]; simp
  | true => rw [seqN_inner hw hn hin]; simp
/-- What is below a node below. -/
theorem seqN_part {T : List Nd} (hw : Wf T) (j : Nat) : ∀ i, j ∈ seqN T i → (seqN T j).length ≤ (seqN T i).length := by
  refine below_ind hw (fun i n hn ih => ?_) fun i hi h => by rw [seqN_none hi] at h; cases h
  intro hj
  cases hin : n.inner with
  | false =>
    rw [seqN_leaf hn hin, List.mem_singleton] at hj
    rw [hj]
    exact Nat.le_refl _
  | true =>
    rw [seqN_inner hw hn hin, List.mem_cons, List.mem_flatMap] at hj
    rcases hj with rfl | ⟨k, hk, hj⟩
    · exact Nat.le_refl _
    · have h1 := ih k hk hj
      rw [seqN_inner hw hn hin, List.length_cons]
      have h2 : (seqN T k.toNat).length ≤ (n.kids.flatMap fun k => seqN T k.toNat).length := flatMap_part (fun k => seqN T k.toNat) hk
      omega
theorem vis_len {T : List Nd} (hw : Wf T) : ∀ i, (vis T i).length ≤ 2 * (seqN T i).length := by
  refine below_ind hw (fun i n hn ih => ?_) fun i hi => by rw [vis_none hi]; exact Nat.zero_le _
  cases hin : n.inner with
  | false =>
    rw [vis_leaf hn hin, seqN_leaf hn hin]
    simp
  | true =>
    rw [vis_inner hw hn hin, seqN_inner hw hn hin]
    have : ∀ L : List Int, (∀ k ∈ L, (vis T k.toNat).length ≤ 2 * (seqN T k.toNat).length) → (L.flatMap fun k => vis T k.toNat).length ≤ 2 * (L.flatMap fun k => seqN T k.toNat).length := by
      intro L
      induction L with
      | nil => intro _; simp
      | cons a r ih2 =>
        intro h
        have h1 := h a (List.mem_cons_self ..)
        have h2 := ih2 fun k hk => h k (List.mem_cons_of_mem _ hk)
        rw [List.flatMap_cons, List.flatMap_cons, List.length_append, List.length_append]
        omega
    have := this n.kids ih
    simp only [List.cons_append, List.length_cons, List.length_append, List.length_nil]
    omega

/-! ### Each once -/

def rootsN (T : List Nd) : List Nat := (List.range T.length).filter (freeAt T)
/-- A tree that calls have made. -/
structure Good (T : List Nd) : Prop where
  wf : Wf T
  once : List.Perm ((rootsN T).flatMap (seqN T)) (List.range T.length)
  leaf : ∀ n ∈ T, n.inner = false → n.kids = []

theorem good_nil : Good [] := ⟨fun i n h => by simp at h, by simp [rootsN], fun n h => by cases h⟩
theorem wf_leaf {T : List Nd} (hw : Wf T) (s n : Int) : Wf (leafT T s n) := by
  intro i m h
  unfold leafT at h
  by_cases hi : i < T.length
  · rw [List.getElem?_append_left hi] at h
    exact hw i m h
  · rw [List.getElem?_append_right (by omega)] at h
    have := (List.getElem?_eq_some_iff.1 h)
    obtain ⟨h1, h2⟩ := this
    simp at h1 h2
    subst h2
    intro k hk
    cases hk
theorem freeAt_app {T : List Nd} {n : Nd} {j : Nat} (h : j < T.length) : freeAt (T ++ [n]) j = freeAt T j := by
  unfold freeAt
  rw [List.getElem?_append_left h]
theorem freeAt_new {T : List Nd} {n : Nd} (h : n.taken = false) : freeAt (T ++ [n]) T.length = true := by
  unfold freeAt
  simp [h]
theorem good_leaf {T : List Nd} (h : Good T) (s n : Int) : Good (leafT T s n) := by
  have hw := wf_leaf h.wf s n
  refine ⟨hw, ?_, ?_⟩
  · have e1 : rootsN (leafT T s n) = rootsN T ++ [T.length] := by
      unfold rootsN leafT
      rw [List.length_append, List.length_singleton, List.range_succ, List.filter_append]
      congr 1
      · exact List.filter_congr fun j hj => freeAt_app (List.mem_range.1 hj)
      · simp [freeAt_new (show (leafD s n).taken = false from rfl)]
    have e2 : (rootsN T).flatMap (seqN (leafT T s n)) = (rootsN T).flatMap (seqN T) := by
      refine flatMap_same fun r hr => ?_
      have hl : r < T.length := List.mem_range.1 ((List.mem_filter.1 hr).1)
      unfold seqN
      rw [vis_same hw h.wf (m := T.length) (fun i hi => ⟨T[i], T[i], by unfold leafT; rw [List.getElem?_append_left hi]; exact List.getElem?_eq_getElem hi, List.getElem?_eq_getElem hi, rfl, rfl⟩) r hl]
    have e3 : seqN (leafT T s n) T.length = [T.length] := seqN_leaf (n := leafD s n) (by simp [leafT]) rfl
    rw [e1, List.flatMap_append, e2, List.flatMap_singleton, e3]
    have e4 : List.range (leafT T s n).length = List.range T.length ++ [T.length] := by rw [leafT, List.length_append, List.length_singleton, List.range_succ]
    rw [e4]
    exact h.once.append_right _
  · intro m hm
    rcases List.mem_append.1 hm with hm | hm
    · exact h.leaf m hm
    · rw [List.mem_singleton] at hm
      subst hm
      intro _
      rfl
theorem wf_mark {T : List Nd} (hw : Wf T) (p : Nat → Bool) : Wf (markB T p) := by
  intro i m h
  rw [markB_get?, Option.map_eq_some_iff] at h
  obtain ⟨n, h, rfl⟩ := h
  have := hw i n h
  split <;> exact this
theorem ok_in {T : List Nd} {K : List Int} (h : okK T K = true) {k : Int} (hk : k ∈ K) : 0 ≤ k ∧ k < (T.length : Int) ∧ freeAt T k.toNat = true := by
  obtain ⟨j, rfl, n, h1, h2⟩ := freeP_iff.1 ((okK_iff.1 h).1 k hk)
  have := (List.getElem?_eq_some_iff.1 h1).1
  exact ⟨by omega, by omega, by simp [freeAt, h1, h2]⟩
theorem wf_join {T : List Nd} (hw : Wf T) (s r : Int) (K : List Int) : Wf (joinT T s r K) := by
  unfold joinT
  split
  · rename_i hok
    intro i m h
    by_cases hi : i < T.length
    · rw [List.getElem?_append_left (by rw [markB_len]; exact hi)] at h
      exact wf_mark hw _ i m h
    · rw [List.getElem?_append_right (by rw [markB_len]; omega), markB_len] at h
      obtain ⟨h1, h2⟩ := List.getElem?_eq_some_iff.1 h
      simp at h1 h2
      subst h2
      intro k hk
      have := ok_in hok hk
      omega
  · exact hw
theorem perm_out {α : Type} [DecidableEq α] {L K : List α} (hL : L.Nodup) (hK : K.Nodup) (h : ∀ x ∈ K, x ∈ L) : List.Perm L (L.filter (fun x => !decide (x ∈ K)) ++ K) := by
  rw [List.perm_ext_iff_of_nodup hL]
  · intro a
    simp
    by_cases ha : a ∈ K
    · simp [ha, h a ha]
    · simp [ha]
  · rw [List.nodup_append]
    refine ⟨hL.filter _, hK, ?_⟩
    intro a ha b hb
    rintro rfl
    simp at ha
    exact ha.2 hb
theorem nodup_nat {K : List Int} (h : K.Nodup) (h0 : ∀ k ∈ K, 0 ≤ k) : (K.map Int.toNat).Nodup := by
  induction K with
  | nil => simp
  | cons a r ih =>
    rw [List.nodup_cons] at h
    rw [List.map_cons, List.nodup_cons]
    refine ⟨?_, ih h.2 fun k hk => h0 k (List.mem_cons_of_mem _ hk)⟩
    intro hm
    obtain ⟨b, hb, e⟩ := List.mem_map.1 hm
    have h1 := h0 a (List.mem_cons_self ..)
    have h2 := h0 b (List.mem_cons_of_mem _ hb)
    exact h.1 (by rwa [show a = b by omega])
theorem good_join {T : List Nd} (h : Good T) (s r : Int) (K : List Int) : Good (joinT T s r K) := by
  have hw := wf_join h.wf s r K
  by_cases hok : okK T K = true
  · have eT : joinT T s r K = markB T (inK K) ++ [joinD s r K] := by unfold joinT; rw [if_pos hok]
    rw [eT] at hw ⊢
    have hl : (markB T (inK K)).length = T.length := markB_len _ _
    have hr : (markB T (inK K) ++ [joinD s r K]).length = T.length + 1 := by rw [List.length_append, hl]; rfl
    have hs : ∀ i, i < T.length → seqN (markB T (inK K) ++ [joinD s r K]) i = seqN T i := fun i hi => by
      unfold seqN
      rw [vis_same hw h.wf (m := T.length) (fun i hi => ⟨if inK K i then tk true T[i] else T[i], T[i], by rw [List.getElem?_append_left (by rw [hl]; exact hi), markB_get?, List.getElem?_eq_getElem hi]; rfl, List.getElem?_eq_getElem hi, by split <;> rfl, by split <;> rfl⟩) i hi]
    have e1 : rootsN (markB T (inK K) ++ [joinD s r K]) = (rootsN T).filter (fun x => !decide (x ∈ K.map Int.toNat)) ++ [T.length] := by
      unfold rootsN
      rw [hr, List.range_succ, List.filter_append, List.filter_filter]
      congr 1
      · refine List.filter_congr fun j hj => ?_
        have hj := List.mem_range.1 hj
        rw [freeAt_app (by rw [hl]; exact hj)]
        have hiff : decide (j ∈ K.map Int.toNat) = inK K j := by
          unfold inK
          rw [Bool.eq_iff_iff]
          simp only [decide_eq_true_eq, List.mem_map]
          constructor
          · rintro ⟨k, hk, e⟩
            have := ok_in hok hk
            rwa [show (j : Int) = k by omega]
          · intro hk
            exact ⟨j, hk, by simp⟩
        rw [hiff]
        unfold freeAt
        rw [markB_get?, List.getElem?_eq_getElem hj]
        simp only [Option.map_some]
        cases inK K j <;> simp [tk]
      · have := freeAt_new (T := markB T (inK K)) (n := joinD s r K) rfl
        rw [hl] at this
        simp [this]
    have e2 : ((rootsN T).filter (fun x => !decide (x ∈ K.map Int.toNat))).flatMap (seqN (markB T (inK K) ++ [joinD s r K])) = ((rootsN T).filter (fun x => !decide (x ∈ K.map Int.toNat))).flatMap (seqN T) :=
      flatMap_same fun x hx => hs x (List.mem_range.1 (List.mem_filter.1 (List.mem_filter.1 hx).1).1)
    have e3 : seqN (markB T (inK K) ++ [joinD s r K]) T.length = T.length :: (K.map Int.toNat).flatMap (seqN T) := by
      rw [seqN_inner hw (n := joinD s r K) (by rw [List.getElem?_append_right (by omega), hl]; simp) rfl, List.flatMap_map]
      congr 1
      exact flatMap_same fun k hk => hs _ (by have := ok_in hok hk; omega)
    refine ⟨hw, ?_, ?_⟩
    · rw [e1, List.flatMap_append, e2, List.flatMap_singleton, e3, hr, List.range_succ]
      have hp := (perm_out (L := rootsN T) (K := K.map Int.toNat) (List.nodup_range.filter _) (nodup_nat (okK_iff.1 hok).2 fun k hk => (ok_in hok hk).1) (by
        intro x hx
        obtain ⟨k, hk, rfl⟩ := List.mem_map.1 hx
        have := ok_in hok hk
        exact List.mem_filter.2 ⟨List.mem_range.2 (by omega), this.2.2⟩)).flatMap_right (seqN T)
      rw [List.flatMap_append] at hp
      have := hp.symm.trans h.once
      refine (List.perm_middle).trans ?_
      refine (this.cons T.length).trans ?_
      exact (List.perm_append_singleton _ _).symm
    · intro m hm
      rcases List.mem_append.1 hm with hm | hm
      · obtain ⟨i, hi, rfl⟩ := List.mem_iff_getElem.1 hm
        rw [markB_len] at hi
        rw [markB_get hi]
        have := h.leaf _ (List.getElem_mem hi)
        split <;> exact this
      · rw [List.mem_singleton] at hm
        subst hm
        intro h
        cases h
  · rw [show joinT T s r K = T by unfold joinT; rw [if_neg hok]]
    exact h
theorem seqN_len {T : List Nd} (h : Good T) (i : Nat) : (seqN T i).length ≤ T.length := by
  by_cases hi : i < T.length
  · have hm := h.once.mem_iff.2 (List.mem_range.2 hi)
    obtain ⟨r, hr, hm⟩ := List.mem_flatMap.1 hm
    have h1 := seqN_part h.wf i r hm
    have h2 : (seqN T r).length ≤ ((rootsN T).flatMap (seqN T)).length := flatMap_part (seqN T) hr
    have h3 := h.once.length_eq
    rw [List.length_range] at h3
    omega
  · rw [seqN_none (by omega)]
    exact Nat.zero_le _
theorem vis_small {T : List Nd} (h : Good T) (i : Nat) : (vis T i).length ≤ 2 * T.length := by
  have h1 := vis_len h.wf i
  have h2 := seqN_len h i
  omega

/-! ### Leaves, derived, text -/

def ndAt (T : List Nd) (i : Nat) : Nd := T.getD i ⟨0, 0, 0, [], false, false⟩
theorem ndAt_get {T : List Nd} {i : Nat} (h : i < T.length) : ndAt T i = T[i] := by simp [ndAt, List.getD_eq_getElem?_getD, h]
def leafN (T : List Nd) (i : Nat) : List Nat := (seqN T i).filter fun j => !(ndAt T j).inner
/-- Of any number. -/
def ofI (f : Nat → List Nat) (i : Int) : List Nat := if 0 ≤ i then f i.toNat else []
def leavesP (T : List Nd) (i : Int) : List Int := (ofI (leafN T) i).map fun j => (ndAt T j).leaf
def yieldP (T : List Nd) (i : Int) : List Int := (ofI (leafN T) i).map fun j => (ndAt T j).sym
def rootsP (T : List Nd) : List Int := (rootsN T).map Int.ofNat
/-- One node is derived, as far as it and its children tell. -/
def der1 (T : List Nd) (G : Gram) (n : Nd) : Bool :=
  if n.inner then decide (0 ≤ n.rule ∧ n.rule < (G.rules.length : Int)) && (decide ((G.rules.getD n.rule.toNat (0, [])).1 = n.sym) && decide ((G.rules.getD n.rule.toNat (0, [])).2 = n.kids.map fun k => (ndAt T k.toNat).sym)) else termB G n.sym
def derP (T : List Nd) (G : Gram) (i : Nat) : Bool := (seqN T i).all fun j => der1 T G (ndAt T j)
/-- A step of Show. -/
def showStep (T : List Nd) (G : Gram) (t : List UInt8) (x : Nat × Bool) : List UInt8 :=
  if x.2 then t ++ [41] else t ++ (if t = [] then [] else [32]) ++ (if (ndAt T x.1).inner then [40] else []) ++ (nameS G (ndAt T x.1).sym).data.toList
def showL (T : List Nd) (G : Gram) (i : Nat) : List UInt8 := (vis T i).foldl (showStep T G) []
/-- From some text on: a blank where there is one. -/
theorem show_from {T : List Nd} (hw : Wf T) (G : Gram) : ∀ i, i < T.length → ∀ t, (vis T i).foldl (showStep T G) t = t ++ (if t = [] then [] else [32]) ++ showL T G i := by
  intro i
  induction i using Nat.strongRecOn with
  | ind i ih =>
    intro hi t
    have hn := List.getElem?_eq_getElem hi
    have hnd := ndAt_get hi
    cases hin : T[i].inner with
    | false =>
      unfold showL
      rw [vis_leaf hn hin]
      simp [showStep, hnd, hin, List.append_assoc]
    | true =>
      unfold showL
      rw [vis_inner hw hn hin]
      have kids : ∀ (L : List Int), (∀ k ∈ L, 0 ≤ k ∧ k < (i : Int)) → ∀ t, t ≠ [] → (L.flatMap fun k => vis T k.toNat).foldl (showStep T G) t = t ++ L.flatMap fun k => 32 :: showL T G k.toNat := by
        intro L
        induction L with
        | nil => intro _ t _; simp
        | cons a r ih2 =>
          intro h t ht
          have ha := h a (List.mem_cons_self ..)
          rw [List.flatMap_cons, List.foldl_append, ih a.toNat (by omega) (by omega) t, if_neg ht, ih2 (fun k hk => h k (List.mem_cons_of_mem _ hk)) _ (by simp), List.flatMap_cons]
          simp [List.append_assoc]
      have hk := hw i _ hn
      rw [List.cons_append, List.foldl_cons, List.foldl_append, kids _ hk _ (by simp [showStep, hnd, hin]), List.foldl_cons, List.foldl_nil, List.foldl_cons, List.foldl_append, kids _ hk _ (by simp [showStep, hnd, hin])]
      simp [showStep, hnd, hin, List.append_assoc]
theorem show_leaf {T : List Nd} {G : Gram} {i : Nat} (hi : i < T.length) (hin : T[i].inner = false) : showL T G i = (nameS G T[i].sym).data.toList := by
  unfold showL
  rw [vis_leaf (List.getElem?_eq_getElem hi) hin]
  simp [showStep, ndAt_get hi, hin]
theorem show_inner {T : List Nd} (hw : Wf T) {G : Gram} {i : Nat} (hi : i < T.length) (hin : T[i].inner = true) : showL T G i = 40 :: (nameS G T[i].sym).data.toList ++ (T[i].kids.flatMap fun k => 32 :: showL T G k.toNat) ++ [41] := by
  have hn := List.getElem?_eq_getElem hi
  have hk := hw i _ hn
  have kids : ∀ (L : List Int), (∀ k ∈ L, 0 ≤ k ∧ k < (i : Int)) → ∀ t, t ≠ [] → (L.flatMap fun k => vis T k.toNat).foldl (showStep T G) t = t ++ L.flatMap fun k => 32 :: showL T G k.toNat := by
    intro L
    induction L with
    | nil => intro _ t _; simp
    | cons a r ih2 =>
      intro h t ht
      have ha := h a (List.mem_cons_self ..)
      rw [List.flatMap_cons, List.foldl_append, show_from hw G a.toNat (by omega) t, if_neg ht, ih2 (fun k hk => h k (List.mem_cons_of_mem _ hk)) _ (by simp), List.flatMap_cons]
      simp [List.append_assoc]
  conv => lhs; unfold showL
  rw [vis_inner hw hn hin, List.cons_append, List.foldl_cons, List.foldl_append, kids _ hk _ (by simp [showStep, ndAt_get hi, hin])]
  simp [showStep, ndAt_get hi, hin]
/-- How long a text may be. -/
theorem show_len {T : List Nd} {G : Gram} {m : Nat} (hm : ∀ s, (nameS G s).size ≤ m) : ∀ (L : List (Nat × Bool)) (t : List UInt8), (L.foldl (showStep T G) t).length ≤ t.length + L.length * (m + 2) := by
  intro L
  induction L with
  | nil => intro t; simp
  | cons x r ih =>
    intro t
    rw [List.foldl_cons]
    refine Nat.le_trans (ih _) ?_
    have h1 : (showStep T G t x).length ≤ t.length + (m + 2) := by
      have h2 := hm (ndAt T x.1).sym
      have h3 : (nameS G (ndAt T x.1).sym).data.toList.length = (nameS G (ndAt T x.1).sym).size := by rw [Array.length_toList]; rfl
      unfold showStep
      split
      · simp
      · simp only [List.length_append, h3]
        split <;> split <;> simp <;> omega
    rw [List.length_cons, Nat.succ_mul]
    omega

end Go.Proofs.Ytoohnkffclkmhaa.Tr
