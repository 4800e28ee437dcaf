/-
  Plain facts on lists of names: the place of a name, what a map that bears the places answers, lists without repeats. No program in it.
-/
import Derived.Test.YtoohnkffclkmhaaSep
namespace Go.Proofs.Ytoohnkffclkmhaa.It
open Go.RowKit Go.Maps

/-- The first place of a name. -/
def pl : List ByteArray → ByteArray → Option Nat
  | [], _ => none
  | x :: r, s => if x = s then some 0 else (pl r s).map (· + 1)

theorem pl_none {L : List ByteArray} {s : ByteArray} : pl L s = none ↔ s ∉ L := by
  induction L with
  | nil => simp [pl]
  | cons x r ih =>
    unfold pl
    by_cases h : x = s
    · simp [h]
    · simp [h, ih, Ne.symm h]

theorem pl_some {L : List ByteArray} {s : ByteArray} {i : Nat} (h : pl L s = some i) : ∃ hi : i < L.length, L[i] = s ∧ ∀ j (hj : j < i), L[j]'(by omega) ≠ s := by
  induction L generalizing i with
  | nil => simp [pl] at h
  | cons x r ih =>
    unfold pl at h
    by_cases hx : x = s
    · simp [hx] at h
      subst h
      exact ⟨by simp, by simpa using hx, fun j hj => absurd hj (by omega)⟩
    · simp only [hx, if_false, Option.map_eq_some_iff] at h
      obtain ⟨k, hk, rfl⟩ := h
      obtain ⟨h1, h2, h3⟩ := ih hk
      refine ⟨by simp; omega, by simpa using h2, fun j hj => ?_⟩
      cases j with
      | zero => simpa using hx
      | succ j => simpa using h3 j (by omega)

theorem pl_at {L : List ByteArray} {s : ByteArray} {i : Nat} (hi : i < L.length) (h : L[i] = s) (hb : ∀ j (hj : j < i), L[j]'(by omega) ≠ s) : pl L s = some i := by
  cases hp : pl L s with
  | none => exact absurd (h ▸ List.getElem_mem hi) (pl_none.1 hp)
  | some k =>
    obtain ⟨h1, h2, h3⟩ := pl_some hp
    rcases Nat.lt_trichotomy k i with hl | rfl | hl
    · exact absurd h2 (hb k hl)
    · rfl
    · exact absurd h (h3 i hl)

theorem pl_snoc (L : List ByteArray) (s t : ByteArray) : pl (L ++ [s]) t = match pl L t with | some i => some i | none => if s = t then some L.length else none := by
  induction L with
  | nil => simp [pl]
  | cons x r ih =>
    simp only [List.cons_append, pl]
    by_cases hx : x = t
    · simp [hx]
    · simp only [hx, if_false, ih]
      cases pl r t with
      | some i => simp
      | none => by_cases hs : s = t <;> simp [hs]

/-- Is it there, and where. Closed to simp. -/
def isIn (L : List ByteArray) (s : ByteArray) : Bool := (pl L s).isSome
def num (L : List ByteArray) (s : ByteArray) : Nat := (pl L s).getD 0
def place (L : List ByteArray) (s : ByteArray) : Int := if isIn L s then (num L s : Int) else -1

theorem place_in {L : List ByteArray} {s : ByteArray} (h : isIn L s = true) : place L s = (num L s : Int) := by simp [place, h]
theorem place_out {L : List ByteArray} {s : ByteArray} (h : isIn L s = false) : place L s = -1 := by simp [place, h]
theorem num_lt {L : List ByteArray} {s : ByteArray} (h : isIn L s = true) : ∃ hi : num L s < L.length, L[num L s] = s := by
  unfold isIn at h
  obtain ⟨i, hi⟩ := Option.isSome_iff_exists.1 h
  obtain ⟨h1, h2, _⟩ := pl_some hi
  have : num L s = i := by simp [num, hi]
  exact ⟨by omega, by simpa [this] using h2⟩
theorem isIn_mem {L : List ByteArray} {s : ByteArray} : isIn L s = true ↔ s ∈ L := by
  unfold isIn
  cases h : pl L s with
  | none => simpa using pl_none.1 h
  | some i =>
    obtain ⟨h1, h2, _⟩ := pl_some h
    simpa using h2 ▸ List.getElem_mem h1
theorem isIn_snoc (L : List ByteArray) (s : ByteArray) : isIn (L ++ [s]) s = true := isIn_mem.2 (by simp)
theorem num_snoc_same {L : List ByteArray} {s : ByteArray} (h : isIn L s = false) : num (L ++ [s]) s = L.length := by
  have hp : pl L s = none := by
    unfold isIn at h
    cases hp : pl L s with
    | none => rfl
    | some i => simp [hp] at h
  simp [num, pl_snoc, hp]
theorem num_snoc_old {L : List ByteArray} {s t : ByteArray} (h : isIn L t = true) : isIn (L ++ [s]) t = true ∧ num (L ++ [s]) t = num L t := by
  refine ⟨isIn_mem.2 (by simp [isIn_mem.1 h]), ?_⟩
  unfold isIn at h
  obtain ⟨i, hi⟩ := Option.isSome_iff_exists.1 h
  simp [num, pl_snoc, hi]
theorem num_le {L : List ByteArray} {s : ByteArray} : num L s ≤ L.length := by
  cases h : isIn L s with
  | true => obtain ⟨h1, _⟩ := num_lt h; omega
  | false =>
    unfold isIn at h
    cases hp : pl L s with
    | none => simp [num, hp]
    | some i => simp [hp] at h

theorem data_inj {s t : ByteArray} (h : s.data.toList = t.data.toList) : s = t := by
  cases s
  cases t
  simpa using h

/-- What a map answers that bears the places of the names. -/
def MapIs (L : List ByteArray) (D : DataW Unit) : Prop := ∀ s : ByteArray, Maps.has D (.string s.data.toList) = isIn L s ∧ D.atKey (.string s.data.toList) (.lit (.int .i64 0)) = .lit (.int .i64 (num L s))

theorem mapIs_nil : MapIs [] (.map []) := fun _ => ⟨rfl, rfl⟩

theorem mapIs_put {L : List ByteArray} {D : DataW Unit} {s : ByteArray} (hD : IsMap D) (hk : WideAt.IsKeyLit (.string s.data.toList)) (h : MapIs L D) (hn : isIn L s = false) : MapIs (L ++ [s]) (D.put (.string s.data.toList) (.lit (.int .i64 L.length))) := fun t => by
  by_cases e : s = t
  · subst e
    rw [has_put_same hD hk, atKey_put_same hD hk, isIn_snoc, num_snoc_same hn]
    exact ⟨rfl, rfl⟩
  · have hne : (Lit.string t.data.toList) ≠ .string s.data.toList := fun h => e (data_inj (by injection h with h; exact h.symm))
    rw [has_put_other hne, atKey_put_other hne, (h t).1, (h t).2]
    have hp : pl (L ++ [s]) t = pl L t := by
      rw [pl_snoc]
      cases pl L t <;> simp [e]
    exact ⟨by unfold isIn; rw [hp], by unfold num; rw [hp]⟩

/-- A name's length. -/
def okLen (s : ByteArray) : Bool := decide (0 < s.size) && decide (s.size ≤ 24)

/-- Names without repeats, each of them of a name's length. -/
structure Good (L : List ByteArray) : Prop where
  once : L.Nodup
  sizes : ∀ s ∈ L, okLen s = true

theorem Good.nil : Good [] := ⟨by simp, by simp⟩
theorem Good.snoc {L : List ByteArray} {s : ByteArray} (h : Good L) (hs : okLen s = true) (hn : isIn L s = false) : Good (L ++ [s]) := by
  have hm : s ∉ L := fun hm => by rw [isIn_mem.2 hm] at hn; cases hn
  refine ⟨List.nodup_append.2 ⟨h.once, by simp, fun a ha b hb => ?_⟩, fun t ht => ?_⟩
  · simp only [List.mem_singleton] at hb
    subst hb
    exact fun e => hm (e ▸ ha)
  · simp only [List.mem_append, List.mem_singleton] at ht
    rcases ht with ht | rfl
    · exact h.sizes t ht
    · exact hs

/-- The room that New gives. -/
def cap (n : Int) : Nat := (min (max n 0) 4096).toNat
theorem cap_le (n : Int) : cap n ≤ 4096 := by unfold cap; omega

/-- What a call of Put answers, and what is there behind it: one term for both sides. -/
def putN (n : Nat) (L : List ByteArray) (s : ByteArray) : Nat := if okLen s then (if isIn L s then num L s else if n ≤ L.length then 0 else L.length) else 0
def putE (n : Nat) (L : List ByteArray) (s : ByteArray) : Nat := if okLen s then (if isIn L s then 0 else if n ≤ L.length then 14 else 0) else 5
def putL (n : Nat) (L : List ByteArray) (s : ByteArray) : List ByteArray := if okLen s then (if isIn L s then L else if n ≤ L.length then L else L ++ [s]) else L

theorem putL_len {n : Nat} {L : List ByteArray} {s : ByteArray} : (putL n L s).length ≤ L.length + 1 := by
  unfold putL
  repeat' split
  all_goals simp

end Go.Proofs.Ytoohnkffclkmhaa.It
