/- A part of the proof. -/
import Derived.Test.YtnfbjlainpenaaaGreatDoorPk09
set_option linter.unusedVariables false
namespace Go.Proofs.YtnfbjlainpenaaaGreatDoor
namespace Lk
open Gr (Gram checkN zAX zAE zAU nonB zBA zA8 zAg zAV)
open Im
open Au
open Bt (Upto orr gains)
theorem zB8 {B C : Nat -> Bool} {n : Nat} : gains B n C = true ↔ ∃ i, i < n /\ C i = true /\ B i = false := by
 unfold gains
 rw [List.any_eq_true]
 constructor
 ·rintro ⟨i, h1, h2⟩
  rw [Bool.and_eq_true, Bool.not_eq_true'] at h2
  exact ⟨i, List.mem_range.1 h1, h2.1, h2.2⟩
 ·rintro ⟨i, h1, h2, h3⟩
  exact ⟨i, List.mem_range.2 h1, by rw [h2, h3]; rfl⟩
theorem zO8 (B C : Nat -> Bool) (n : Nat) {i : Nat} (h : B i = true) : orr B n C i = true := by
 unfold orr
 rw [h]
 rfl
theorem zLX (B C : Nat -> Bool) (n : Nat) {i : Nat} (h : C i = true) (hi : i < n) : orr B n C i = true := by
 unfold orr
 rw [h]
 simp [hi]
theorem zEE {B C : Nat -> Bool} {n i : Nat} (h : orr B n C i = true) : B i = true \/ (C i = true /\ i < n) := by
 unfold orr at h
 rw [Bool.or_eq_true, Bool.and_eq_true, decide_eq_true_iff] at h
 exact h
theorem zH6 {B C : Nat -> Bool} {n : Nat} (h : gains B n C = false) : orr B n C = B := by
 funext i
 cases hb : B i with
 | true => exact zO8 B C n hb
 | false =>
  cases ho : orr B n C i with
  | false => rfl
  | true =>
   rcases zEE ho with q | ⟨q1, q2⟩
   ·rw [hb] at q; cases q
   ·rw [zB8.2 ⟨i, q2, q1, hb⟩] at h; cases h
theorem zN7 {B C : Nat -> Bool} {n : Nat} (h : Upto B n) : Upto (orr B n C) n := ⟨h.1, fun i hi => by
 cases ho : orr B n C i with
 | false => rfl
 | true =>
  rcases zEE ho with q | ⟨_, q2⟩
  ·rw [h.2 i hi] at q; cases q
  ·omega⟩
def Nt.give (m : Nat) (N : Nt) (k : Nat) (F : Nat -> Bool) : Nt :=
 { N with S := upd N.S k (orr (N.S k) m F), Wt := if gains (N.S k) m F && !N.Wt k then upd N.Wt k true else N.Wt, qs := if gains (N.S k) m F && !N.Wt k then N.qs ++ [k] else N.qs }
def Stl (S : Nat -> Nat -> Bool) (k : Nat) (y : Way) : Prop := (∀ t, y.f t = true -> S y.to t = true) /\ (y.e = true -> ∀ t, S k t = true -> S y.to t = true)
theorem zBR (m : Nat) (N : Nt) (k : Nat) (F : Nat -> Bool) {a t : Nat} (h : N.S a t = true) : (N.give m k F).S a t = true := by
 show upd N.S k (orr (N.S k) m F) a t = true
 by_cases e : a = k
 ·subst e
  rw [upd_same]
  exact zO8 _ _ _ h
 ·rw [zAC e]
  exact h
theorem zD0 (m : Nat) (N : Nt) (k : Nat) (F : Nat -> Bool) (hF : Upto F m) {t : Nat} (h : F t = true) : (N.give m k F).S k t = true := by
 show upd N.S k (orr (N.S k) m F) k t = true
 rw [upd_same]
 refine zLX _ _ _ h ?_
 rcases Nat.lt_or_ge t m with q | q
 ·exact q
 ·rw [hF.2 t q] at h; cases h
theorem zEk {m : Nat} {N : Nt} {k : Nat} {F : Nat -> Bool} {a t : Nat} (h : (N.give m k F).S a t = true) : N.S a t = true \/ (a = k /\ F t = true) := by
 have h' : upd N.S k (orr (N.S k) m F) a t = true := h
 by_cases e : a = k
 ·subst e
  rw [upd_same] at h'
  exact (zEE h').imp id fun q => ⟨rfl, q.1⟩
 ·rw [zAC e] at h'
  exact .inl h'
theorem zF4 {m : Nat} {N : Nt} {k : Nat} {F : Nat -> Bool} (h : gains (N.S k) m F = false) : N.give m k F = N := by
 unfold Nt.give
 rw [h, zH6 h]
 have : upd N.S k (N.S k) = N.S := by
  funext a
  by_cases e : a = k
  ·subst e; rw [upd_same]
  ·rw [zAC e]
 rw [this]
 rfl
theorem zPu {m : Nat} {N : Nt} {k : Nat} {F : Nat -> Bool} {a : Nat} (h : N.Wt a = true) : (N.give m k F).Wt a = true := by
 show (if gains (N.S k) m F && !N.Wt k then upd N.Wt k true else N.Wt) a = true
 split
 ·by_cases e : a = k
  ·subst e; rw [upd_same]
  ·rw [zAC e]; exact h
 ·exact h
theorem zIt {m : Nat} {N : Nt} {k : Nat} {F : Nat -> Bool} (h : gains (N.S k) m F = true) : (N.give m k F).Wt k = true := by
 show (if gains (N.S k) m F && !N.Wt k then upd N.Wt k true else N.Wt) k = true
 rw [h, Bool.true_and]
 cases hw : N.Wt k with
 | true => simpa using hw
 | false =>
  rw [if_pos (by rfl), upd_same]
theorem zEl {m : Nat} {N : Nt} {k : Nat} {F : Nat -> Bool} {a : Nat} (h : a ≠ k) : (N.give m k F).S a = N.S a := zAC h
structure Sp3 (G : Gram) (q : Whole) (m : Nat) (N : Nt) (X : Nat -> List Way) : Prop where
 upto : ∀ k, k < N.pls.length -> Upto (N.S k) m
 snd : ∀ (k i : Nat) (c : Itm), N.pls[k]? = some (i, c) -> ∀ t : Nat, N.S k t = true -> La G q i c (t : Int)
 nd : N.qs.Nodup
 qu : ∀ k, k ∈ N.qs ↔ k < N.pls.length /\ N.Wt k = true
 full : ∀ k, k < N.pls.length -> N.Wt k = true -> ∃ t, N.S k t = true
 set : ∀ k, k < N.pls.length -> N.Wt k = true \/ (∀ t, N.S k t = false) \/ ∀ y ∈ X k, Stl N.S k y
theorem Sp3.give {G : Gram} {q : Whole} {m : Nat} {N : Nt} {X : Nat -> List Way} (h : Sp3 G q m N X) {k : Nat} {i : Nat} {c : Itm} (hk : N.pls[k]? = some (i, c)) {F : Nat -> Bool} (hF : ∀ t : Nat, F t = true -> La G q i c (t : Int)) : Sp3 G q m (N.give m k F) X := by
 have hl := zAa hk
 cases hg : gains (N.S k) m F with
 | false => rw [zF4 hg]; exact h
 | true =>
  refine ⟨fun a ha => ?_, fun a j d ha t ht => ?_, ?_, fun a => ?_, fun a ha hw => ?_, fun a ha => ?_⟩
  ·show Upto (upd N.S k (orr (N.S k) m F) a) m
   by_cases e : a = k
   ·subst e
    rw [upd_same]
    exact zN7 (h.upto a hl)
   ·rw [zAC e]
    exact h.upto a ha
  ·rcases zEk ht with r | ⟨rfl, r⟩
   ·exact h.snd a j d ha t r
   ·have ha' : N.pls[a]? = some (j, d) := ha
    rw [hk] at ha'
    injection ha' with ha'
    injection ha' with e1 e2
    subst e1 e2
    exact hF t r
  ·show (if gains (N.S k) m F && !N.Wt k then N.qs ++ [k] else N.qs).Nodup
   split
   ·rename_i hc
    rw [Bool.and_eq_true, Bool.not_eq_true'] at hc
    rw [List.nodup_append]
    refine ⟨h.nd, by simp, fun a ha b hb => ?_⟩
    rw [List.mem_singleton] at hb
    subst hb
    intro e
    subst e
    have := ((h.qu a).1 ha).2
    rw [hc.2] at this
    cases this
   ·exact h.nd
  ·show a ∈ (if gains (N.S k) m F && !N.Wt k then N.qs ++ [k] else N.qs) ↔ a < N.pls.length /\ (if gains (N.S k) m F && !N.Wt k then upd N.Wt k true else N.Wt) a = true
   split
   ·rename_i hc
    rw [List.mem_append, List.mem_singleton, h.qu]
    by_cases e : a = k
    ·subst e
     rw [upd_same]
     exact ⟨fun _ => ⟨hl, rfl⟩, fun _ => .inr rfl⟩
    ·rw [zAC e]
     constructor
     ·rintro (r | r)
      ·exact r
      ·exact absurd r e
     ·exact .inl
   ·exact h.qu a
  ·by_cases e : a = k
   ·subst e
    obtain ⟨t, _, h2, _⟩ := zB8.1 hg
    obtain ⟨t, h1, h2, h3⟩ := zB8.1 hg
    refine ⟨t, ?_⟩
    show upd N.S a (orr (N.S a) m F) a t = true
    rw [upd_same]
    exact zLX _ _ _ h2 h1
   ·have hw' : N.Wt a = true := by
     have hw1 : (if gains (N.S k) m F && !N.Wt k then upd N.Wt k true else N.Wt) a = true := hw
     split at hw1
     ·rw [zAC e] at hw1
      exact hw1
     ·exact hw1
    obtain ⟨t, ht⟩ := h.full a ha hw'
    exact ⟨t, zBR _ _ _ _ ht⟩
  ·by_cases e : a = k
   ·subst e
    exact .inl (zIt hg)
   ·rcases h.set a ha with r | r | r
    ·exact .inl (zPu r)
    ·exact .inr (.inl fun t => by rw [zEl e]; exact r t)
    ·refine .inr (.inr fun y hy => ⟨fun t ht => zBR _ _ _ _ ((r y hy).1 t ht), fun he t ht => ?_⟩)
     rw [zEl e] at ht
     exact zBR _ _ _ _ ((r y hy).2 he t ht)
def Nt.pop (N : Nt) (k : Nat) : Nt := { N with Wt := upd N.Wt k false, qs := N.qs.dropLast }
theorem Sp3.pop {G : Gram} {q : Whole} {m : Nat} {N : Nt} {X : Nat -> List Way} (h : Sp3 G q m N X) {l : List Nat} {k : Nat} (e : N.qs = l ++ [k]) : k < N.pls.length /\ (∃ t, N.S k t = true) /\ Sp3 G q m (N.pop k) (upd X k []) := by
 have hk := (h.qu k).1 (by rw [e]; exact List.mem_append_right _ (List.mem_singleton.2 rfl))
 have hnd := h.nd
 rw [e, List.nodup_append] at hnd
 have hd : N.qs.dropLast = l := by rw [e]; simp
 refine ⟨hk.1, h.full k hk.1 hk.2, h.upto, h.snd, ?_, fun a => ?_, fun a ha hw => ?_, fun a ha => ?_⟩
 ·show N.qs.dropLast.Nodup
  rw [hd]
  exact hnd.1
 ·show a ∈ N.qs.dropLast ↔ a < N.pls.length /\ upd N.Wt k false a = true
  rw [hd]
  by_cases ea : a = k
  ·subst ea
   rw [upd_same]
   exact ⟨fun q => absurd rfl (hnd.2.2 a q a (List.mem_singleton.2 rfl)), fun q => by cases q.2⟩
  ·rw [zAC ea, ← h.qu, e, List.mem_append, List.mem_singleton]
   exact ⟨.inl, fun q => q.resolve_right ea⟩
 ·have hw' : upd N.Wt k false a = true := hw
  by_cases ea : a = k
  ·subst ea
   rw [upd_same] at hw'
   cases hw'
  ·rw [zAC ea] at hw'
   exact h.full a ha hw'
 ·show upd N.Wt k false a = true \/ (∀ t, N.S a t = false) \/ ∀ y ∈ upd X k [] a, Stl N.S a y
  by_cases ea : a = k
  ·subst ea
   rw [upd_same, upd_same]
   exact .inr (.inr fun y hy => by cases hy)
  ·rw [zAC ea, zAC ea]
   exact h.set a ha
def Nt.go (m : Nat) (N : Nt) (k : Nat) (y : Way) : Nt := if y.e = true then (N.give m y.to y.f).give m y.to ((N.give m y.to y.f).S k) else N.give m y.to y.f
theorem zSL (m : Nat) (N : Nt) (k : Nat) (y : Way) {a t : Nat} (h : N.S a t = true) : (N.go m k y).S a t = true := by
 unfold Nt.go
 split
 ·exact zBR _ _ _ _ (zBR _ _ _ _ h)
 ·exact zBR _ _ _ _ h
theorem zRU {m : Nat} {N : Nt} {k : Nat} {y : Way} (hf : Upto y.f m) (hS : Upto ((N.give m y.to y.f).S k) m) : Stl (N.go m k y).S k y := by
 unfold Nt.go
 split
 ·refine ⟨fun t ht => zBR _ _ _ _ (zD0 _ _ _ _ hf ht), fun _ t ht => ?_⟩
  rcases zEk ht with r | ⟨rfl, r⟩
  ·exact zD0 _ _ _ _ hS r
  ·exact zD0 _ _ _ _ hS r
 ·rename_i he
  exact ⟨fun t ht => zD0 _ _ _ _ hf ht, fun e => absurd e he⟩
theorem Sp3.go {G : Gram} {q : Whole} {m : Nat} {N : Nt} {X : Nat -> List Way} (h : Sp3 G q m N X) {k : Nat} (hk : k < N.pls.length) (h0 : ∃ t, N.S k t = true) {y : Way} (hto : y.to < N.pls.length) (hf : Upto y.f m)
  (hF : ∀ (i : Nat) (c : Itm), N.pls[y.to]? = some (i, c) -> ∀ t : Nat, y.f t = true -> La G q i c (t : Int)) (hE : y.e = true -> ∀ (i : Nat) (c : Itm) (j : Nat) (d : Itm), N.pls[y.to]? = some (i, c) -> N.pls[k]? = some (j, d) -> ∀ t : Nat, La G q j d (t : Int) -> La G q i c (t : Int)) :
  Sp3 G q m (N.go m k y) (upd X k (X k ++ [y])) := by
 obtain ⟨⟨i, c⟩, hp⟩ : ∃ p, N.pls[y.to]? = some p := ⟨_, List.getElem?_eq_getElem hto⟩
 obtain ⟨⟨j, d⟩, hq⟩ : ∃ p, N.pls[k]? = some p := ⟨_, List.getElem?_eq_getElem hk⟩
 have h1 := h.give hp (hF i c hp)
 have hS : Upto ((N.give m y.to y.f).S k) m := h1.upto k hk
 have st := zRU (N := N) (k := k) hf hS
 have h2 : Sp3 G q m (N.go m k y) X := by
  unfold Nt.go
  split
  ·rename_i he
   exact h1.give (k := y.to) (i := i) (c := c) hp fun t ht => hE he i c j d hp hq t (h1.snd k j d hq t ht)
  ·exact h1
 refine ⟨h2.upto, h2.snd, h2.nd, h2.qu, h2.full, fun a ha => ?_⟩
 by_cases e : a = k
 ·subst e
  rw [upd_same]
  refine (h2.set a ha).imp id fun r => r.imp id fun r z hz => ?_
  rcases List.mem_append.1 hz with r2 | r2
  ·exact r z r2
  ·rw [List.mem_singleton] at r2
   subst r2
   exact st
 ·rw [zAC e]
  exact h2.set a ha
theorem zRT (m : Nat) (N : Nt) (k : Nat) (y : Way) : (N.go m k y).pls = N.pls /\ (N.go m k y).Ys = N.Ys /\ (N.go m k y).D = N.D /\ (N.go m k y).E = N.E /\ (N.go m k y).wv = N.wv := by
 unfold Nt.go
 split <;> exact ⟨rfl, rfl, rfl, rfl, rfl⟩
def Nt.lack (m : Nat) (N : Nt) : Nat := ((List.range N.pls.length).flatMap fun k => (List.range m).map fun t => (k, t)).countP fun e => !N.S e.1 e.2
theorem zFw {α : Type} {p r : α -> Bool} : ∀ {l : List α}, (∀ x ∈ l, p x = true -> r x = true) -> l.countP p <= l.countP r /\ ((∃ x ∈ l, p x = false /\ r x = true) -> l.countP p < l.countP r)
 | [], _ => ⟨Nat.le_refl _, fun ⟨x, h, _⟩ => by cases h⟩
 | y :: l, h => by
  obtain ⟨i1, i2⟩ := zFw (l := l) (p := p) (r := r) fun x hx => h x (List.mem_cons_of_mem _ hx)
  have hy := h y (List.mem_cons_self ..)
  rw [List.countP_cons, List.countP_cons]
  refine ⟨?_, ?_⟩
  ·cases e1 : p y <;> cases e2 : r y <;> simp_all <;> omega
  ·rintro ⟨x, h1, h2, h3⟩
   rcases List.mem_cons.1 h1 with e | e
   ·subst e
    rw [h2, h3]
    simp
    omega
   ·have := i2 ⟨x, e, h2, h3⟩
    cases e1 : p y <;> cases e2 : r y <;> simp_all <;> omega
theorem zKy {m : Nat} {N : Nt} {k : Nat} (hk : k < N.pls.length) (F : Nat -> Bool) : (N.give m k F).lack m <= N.lack m /\ (gains (N.S k) m F = true -> (N.give m k F).lack m < N.lack m) := by
 have hc := zFw (l := (List.range N.pls.length).flatMap fun k => (List.range m).map fun t => (k, t)) (p := fun e : Nat × Nat => !(N.give m k F).S e.1 e.2) (r := fun e => !N.S e.1 e.2) (fun e _ h => by
  rw [Bool.not_eq_true'] at h ⊢
  cases e2 : N.S e.1 e.2 with
  | false => rfl
  | true => rw [zBR m N k F e2] at h; cases h)
 refine ⟨hc.1, fun hg => hc.2 ?_⟩
 obtain ⟨t, h1, h2, h3⟩ := zB8.1 hg
 refine ⟨(k, t), List.mem_flatMap.2 ⟨k, List.mem_range.2 hk, List.mem_map.2 ⟨t, List.mem_range.2 h1, rfl⟩⟩, ?_, ?_⟩
 ·dsimp only
  have : (N.give m k F).S k t = true := by
   show upd N.S k (orr (N.S k) m F) k t = true
   rw [upd_same]
   exact zLX _ _ _ h2 h1
  rw [this]
  rfl
 ·dsimp only
  rw [h3]
  rfl
def Nt.num (m : Nat) (N : Nt) : Nat := N.lack m * (N.pls.length + 1) + N.qs.length
theorem zH4 {m : Nat} {N : Nt} {k : Nat} (hk : k < N.pls.length) (hq : N.qs.length <= N.pls.length) (F : Nat -> Bool) : (N.give m k F).num m <= N.num m := by
 cases hg : gains (N.S k) m F with
 | false => rw [zF4 hg]; exact Nat.le_refl _
 | true =>
  have h1 := (zKy (m := m) hk F).2 hg
  have h2 : (N.give m k F).qs.length <= N.qs.length + 1 := by
   show (if gains (N.S k) m F && !N.Wt k then N.qs ++ [k] else N.qs).length <= _
   split <;> simp
  have h3 : (N.give m k F).pls = N.pls := rfl
  unfold Nt.num
  rw [h3]
  generalize (N.give m k F).lack m = a at *
  generalize N.lack m = b at *
  have : (a + 1) * (N.pls.length + 1) <= b * (N.pls.length + 1) := Nat.mul_le_mul_right _ h1
  rw [Nat.succ_mul] at this
  omega
theorem Sp3.qlen {G : Gram} {q : Whole} {m : Nat} {N : Nt} {X : Nat -> List Way} (h : Sp3 G q m N X) : N.qs.length <= N.pls.length := by
 have := zBj h.nd (M := List.range N.pls.length) fun k hk => List.mem_range.2 ((h.qu k).1 hk).1
 simpa using this
theorem zQP {m : Nat} {N : Nt} {l : List Nat} {k : Nat} (e : N.qs = l ++ [k]) : (N.pop k).num m < N.num m := by
 have : (N.pop k).qs = l := by
  show N.qs.dropLast = l
  rw [e]
  simp
 unfold Nt.num
 rw [this, e, List.length_append]
 show N.lack m * (N.pls.length + 1) + l.length < N.lack m * (N.pls.length + 1) + (l.length + 1)
 omega
theorem zRg {G : Gram} {q : Whole} {m : Nat} {N : Nt} {X : Nat -> List Way} (h : Sp3 G q m N X) {k : Nat} {y : Way} (hto : y.to < N.pls.length) (hq : (N.give m y.to y.f).qs.length <= N.pls.length) : (N.go m k y).num m <= N.num m := by
 have h1 := zH4 (m := m) hto h.qlen y.f
 unfold Nt.go
 split
 ·exact Nat.le_trans (zH4 (m := m) (N := N.give m y.to y.f) hto hq _) h1
 ·exact h1
open Classical in
theorem zM3 {G : Gram} {q : Whole} (D : Done G q) (hv : checkN G = 0) {N : Nt} {m : Nat} (h1 : Lk1 G q N) (h3 : Sp3 G q m N N.Ys) (hq : N.qs = []) (hL : ∀ i, i < q.1.length -> ∀ x, Clo G (zAH q.1 i) x -> Lkd G q N i x)
  {k0 : Nat} (hk0 : N.pls[k0]? = some (0, ((G.rules.length : Int), 0))) (h0 : N.S k0 0 = true) {k i : Nat} {c : Itm} (hk : N.pls[k]? = some (i, c)) (t : Nat) : N.S k t = true ↔ La G q i c (t : Int) := by
 have idle : ∀ a, a < N.pls.length -> N.Wt a = false := fun a ha => by
  cases hw : N.Wt a with
  | false => rfl
  | true =>
   have := (h3.qu a).2 ⟨ha, hw⟩
   rw [hq] at this
   cases this
 have settled : ∀ a, a < N.pls.length -> (∃ t, N.S a t = true) -> ∀ y ∈ N.Ys a, Stl N.S a y := fun a ha ⟨t, ht⟩ => by
  rcases h3.set a ha with r | r | r
  ·rw [idle a ha] at r; cases r
  ·rw [r t] at ht; cases ht
  ·exact r
 have one : ∀ {a b : Nat} {p : Pl}, N.pls[a]? = some p -> N.pls[b]? = some p -> a = b := fun {a b p} ha hb => by
  have la := zAa ha
  have lb := zAa hb
  rw [List.getElem?_eq_getElem la, Option.some.injEq] at ha
  rw [List.getElem?_eq_getElem lb, Option.some.injEq] at hb
  rcases Nat.lt_trichotomy a b with r | r | r
  ·exact absurd (ha.trans hb.symm) (List.pairwise_iff_getElem.1 h1.nd a b la lb r)
  ·exact r
  ·exact absurd (hb.trans ha.symm) (List.pairwise_iff_getElem.1 h1.nd b a lb la r)
 refine ⟨h3.snd k i c hk t, fun hl => ?_⟩
 have key : ∀ {i : Nat} {x : Itm} {t : Int}, La G q i x t -> ∃ (k : Nat) (n : Nat), N.pls[k]? = some (i, rep G x) /\ t = (n : Int) /\ N.S k n = true := by
  intro i x t hl
  induction hl with
  | start =>
   refine ⟨k0, 0, ?_, rfl, h0⟩
   rw [hk0]
   have : rep G ((G.rules.length : Int), 0) = ((G.rules.length : Int), 0) := by
    have hm := zBq (G := G) (k := G.rules.length) (Nat.le_refl _)
    rw [zBy rfl]
    unfold hd
    dsimp only
    rw [(zAg G).2] at hm ⊢
    rw [zHd hv hm]
   rw [this]
  | move h0 hb hl ih =>
   rename_i i j x t
   obtain ⟨k, n, e1, e2, e3⟩ := ih
   obtain ⟨p1, p2⟩ := zCs D hv h0
   obtain ⟨k', f1, ⟨j', f2, y, f3, f4, f5⟩, _⟩ := hL i p1 x p2 hb
   obtain rfl := one f1 e1
   have : j' = j := by rw [hl] at f2; omega
   subst this
   have st := settled _ (zAa f1) ⟨n, e3⟩ y f3
   have hx := (zAN.1 (zAf.1 hb).1).2.1
   exact ⟨y.to, n, by rw [zBx (show (x.1, x.2 + 1).2 ≠ 0 from by dsimp only; omega)]; exact f4, e2, st.2 f5.1 n e3⟩
  | opens h0 hb hr hl ih =>
   rename_i i r x t u
   obtain ⟨k, n, e1, e2, e3⟩ := ih
   obtain ⟨p1, p2⟩ := zCs D hv h0
   have hleft := zBA.1 hr
   have hnb : nonB G (behV G x) = true := by
    rw [← hleft.2]
    exact zA8 (zAX hv).2.2.2.1 hleft.1
   have hne : behV G x ≠ 0 := by
    have := zAV.1 hnb
    omega
   have hrb : r ∈ byL G (behV G x) := (zFm hne).2 hr
   obtain ⟨k', f1, _, f2⟩ := hL i p1 x p2 hb
   obtain ⟨y, f3, f4, f5⟩ := f2 fun e => by rw [e] at hrb; cases hrb
   obtain rfl := one f1 e1
   have st := settled _ (zAa f1) ⟨n, e3⟩ y f3
   have hu := Fi.zBi hl
   obtain ⟨u', rfl⟩ := Int.eq_ofNat_of_zero_le hu.1
   refine ⟨y.to, u', by rw [zDk hrb]; exact f4, rfl, ?_⟩
   rcases (zA9 hv (zD6 h0)).1 hl with r1 | ⟨r1, r2⟩
   ·exact st.1 u' ((f5.2 u').2 r1)
   ·have : u' = n := by omega
    subst this
    exact st.2 (f5.1.2 r1) u' e3
 obtain ⟨k', n, e1, e2, e3⟩ := key hl
 have hc := (h1.can (i, c) (List.mem_iff_getElem?.2 ⟨k, hk⟩)).2.1
 rw [show rep G c = c from hc] at e1
 obtain rfl := one e1 hk
 have : n = t := by omega
 rw [← this]
 exact e3
theorem zRu {G : Gram} {q : Whole} (hv : checkN G = 0) {N : Nt} (h1 : Lk1 G q N) {k j : Nat} {d : Itm} (hk : N.pls[k]? = some (j, d)) {y : Way} (hy : y ∈ N.Ys k) {t0 : Nat} (ht : La G q j d (t0 : Int)) {i : Nat} {c : Itm} (hc : N.pls[y.to]? = some (i, c)) :
  (∀ t : Nat, y.f t = true -> La G q i c (t : Int)) /\ (y.e = true -> ∀ t : Nat, La G q j d (t : Int) -> La G q i c (t : Int)) := by
 obtain ⟨x, x1, x2, x3, x4⟩ := h1.sound k j d hk y hy
 have hrx : zAU G x.1 = true := by
  have := (zAN.1 (zAd x1)).1
  unfold zAU
  exact decide_eq_true this
 subst x2
 have hx := (zHv (q := q) hv hrx).1 ht
 rcases x4 with ⟨j', f1, f2, f3⟩ | ⟨f1, f2, f3⟩
 ·rw [hc] at f2
  injection f2 with f2
  injection f2 with e1 e2
  subst e1 e2
  refine ⟨fun t h => (by rw [f3.2 t] at h; cases h), fun _ t h => ?_⟩
  exact .move ((zHv hv hrx).1 h) x3 f1
 ·rw [hc] at f2
  injection f2 with f2
  injection f2 with e1 e2
  subst e1 e2
  have hm := head_ne f1
  have hne : behV G x ≠ 0 := by
   obtain ⟨xr, xd⟩ := x
   obtain ⟨b1, b2⟩ := zAf.1 x3
   obtain ⟨c1, c2⟩ := zAN.1 b1
   dsimp only at c1 c2 b2
   obtain ⟨n, rfl⟩ := Int.eq_ofNat_of_zero_le c1.1
   obtain ⟨d, rfl⟩ := Int.eq_ofNat_of_zero_le c2.1
   have hd : d < (zAE G (n : Int)).2.length := by
    unfold rlen at b2
    omega
   rw [(zBN hrx hd).2]
   have := zBB hv hrx hd
   omega
  have hof := (zFm hne).1 hm
  refine ⟨fun t h => ?_, fun e t h => ?_⟩
  ·exact .opens hx x3 hof ((zA9 hv (zD6 hx)).2 (.inl ((f3.2 t).1 h)))
  ·have hx' := (zHv (q := q) hv hrx).1 h
   exact .opens hx' x3 hof ((zA9 hv (zD6 hx')).2 (.inr ⟨f3.1.1 e, rfl⟩))
end Lk
namespace Lk
open Go.RowKit Go.Maps
open Im
def P64 (p : Pl) : Prop := (Lit.int .i64 (p.1 : Int)).wf = true /\ W64 p.2
def pv (p : Pl) : Value := .agg #[.int .i64 (p.1 : Int), .int .i64 p.2.1, .int .i64 p.2.2]
def pk (p : Pl) : Lit := .string (keyBytes [.int .i64 (p.1 : Int), .int .i64 p.2.1, .int .i64 p.2.2])
theorem zRj {x y : Pl} (hx : P64 x) (hy : P64 y) (h : pk x = pk y) : x = y := by
 unfold pk at h
 simp only [Lit.string.injEq] at h
 have := keyBytes_inj (l := [.int .i64 (x.1 : Int), .int .i64 x.2.1, .int .i64 x.2.2]) (l' := [.int .i64 (y.1 : Int), .int .i64 y.2.1, .int .i64 y.2.2]) (by simp [Alike, Lit.sameKind])
  (fun a ha => by
   simp only [List.mem_cons, List.not_mem_nil, or_false] at ha
   rcases ha with rfl | rfl | rfl
   ·exact hx.1
   ·exact hx.2.1
   ·exact hx.2.2)
  (fun a ha => by
   simp only [List.mem_cons, List.not_mem_nil, or_false] at ha
   rcases ha with rfl | rfl | rfl
   ·exact hy.1
   ·exact hy.2.1
   ·exact hy.2.2) h
 simp at this
 obtain ⟨h1, h2, h3⟩ := this
 obtain ⟨a, b, c⟩ := x
 obtain ⟨a', b', c'⟩ := y
 dsimp only at h1 h2 h3
 subst h2 h3
 have : a = a' := by omega
 rw [this]
structure Kp (P : Program) (K : TypeId) : Prop where
 law : Keyed P K
 key : ∀ x, P64 x -> keyOf P K (pv x) = some (pk x)
theorem zSQ {P : Program} {K : TypeId} (fa fb ga gb : Field) (law : Keyed P K) (hu : P.underlying K = some (.struct #[fa, fb])) (ha : P.underlying fa.type = some (.int .i64)) (hb : P.underlying fb.type = some (.struct #[ga, gb]))
  (hga : P.underlying ga.type = some (.int .i64)) (hgb : P.underlying gb.type = some (.int .i64)) (hkt : P.keyType K = true) (hcells : P.cellsOf K = 3) (cb2 : P.cellsOf fb.type = 2)
  (ca : P.cellsOf fa.type = 1) (cga : P.cellsOf ga.type = 1) (cgb : P.cellsOf gb.type = 1) (oa : fa.offset = 0) (ob : fb.offset = 1) (oga : ga.offset = 0) (ogb : gb.offset = 1)
  (na : (fa.name != "_") = true) (nb : (fb.name != "_") = true) (nga : (ga.name != "_") = true) (ngb : (gb.name != "_") = true) (n : Nat) (hn : P.types.size = n + 2) : Kp P K := by
 refine ⟨law, fun x hx => ?_⟩
 unfold keyOf pv
 rw [hu]
 simp only [hkt, Bool.true_and]
 rw [if_pos (by simp [Value.formed, hu, hcells])]
 rw [hn]
 simp [Program.keyLits, hu, hcells, ca, cb2, cga, cgb, oa, ob, oga, ogb, ha, hb, hga, hgb, na, nb, hx.1, hx.2.1, hx.2.2, Value.cells, pk]
 rw [if_pos (by
  intro i hi
  rcases (by omega : i = 0 \/ i = 1) with rfl | rfl
  ·simpa using nga
  ·simpa using ngb)]
 rfl
section
variable {P : Program} {K T E : TypeId}
def PMap (P : Program) (K E : TypeId) (b n : Nat) (X : Pl -> Option Int) (w : World) : Prop :=
 ∃ D : DataW Unit, w.ownsMap P K (plainElem P E) b n D /\ ∀ x, P64 x -> has D (pk x) = (X x).isSome /\ D.atKey (pk x) (.lit (.int .i64 0)) = .lit (.int .i64 ((X x).getD 0))
theorem PMap.made (w : World) (P : Program) (K E : TypeId) : PMap P K E w.heap.size 0 (fun _ => none) (w.alloc (.map #[] 0)) :=
 ⟨_, World.ownsMap_made w P K _, fun x _ => ⟨rfl, rfl⟩⟩
theorem PMap.eq {b n : Nat} {X Y : Pl -> Option Int} {w : World} (h : PMap P K E b n X w) (e : ∀ x, X x = Y x) : PMap P K E b n Y w := by
 obtain ⟨D, h, k⟩ := h
 exact ⟨D, h, fun x hx => by rw [← e x]; exact k x hx⟩
theorem PMap.keep {b n : Nat} {X : Pl -> Option Int} {w w' : World} (h : PMap P K E b n X w) (hb : w'.heap[b]? = w.heap[b]?) : PMap P K E b n X w' := by
 obtain ⟨D, h, k⟩ := h
 exact ⟨D, Sep.ownsMap_at h hb, k⟩
theorem PMap.store {b n : Nat} {X : Pl -> Option Int} {w : World} (h : PMap P K E b n X w) (k : Kp P K) (ht : P.underlying T = some (.map K E)) (he : P.underlying E = some (.int .i64)) (hn : n < maxLen) {x : Pl} (hx : P64 x) {t : Int} (hw : (Lit.int .i64 t).wf = true) :
  ∃ w', (Instr.mapUpdate T (.map (some b)) (pv x) (.int .i64 t)).run P w = .ok () w' /\ PMap P K E b (n + 1) (fun y => if y = x then some t else X y) w' /\ w.mapTurned w' b := by
 obtain ⟨D, ho, kd⟩ := h
 obtain ⟨w', hrun, h1, h2⟩ := ho.store k.law ht hn (k.key x hx) (plainElem_int he hw)
 refine ⟨w', hrun, ⟨_, h1, fun y hy => ?_⟩, h2⟩
 by_cases e : y = x
 ·subst e
  show _ = (if y = y then some t else X y).isSome /\ _ = DataW.lit (Lit.int .i64 ((if y = y then some t else X y).getD 0))
  rw [if_pos rfl, has_put_same ho.isMap (k.law.key (k.key y hy)), atKey_put_same ho.isMap (k.law.key (k.key y hy))]
  exact ⟨rfl, rfl⟩
 ·have hne : pk y ≠ pk x := fun q => e (zRj hy hx q)
  show _ = (if y = x then some t else X y).isSome /\ _ = DataW.lit (Lit.int .i64 ((if y = x then some t else X y).getD 0))
  rw [if_neg e, has_put_other hne, atKey_put_other hne]
  exact kd y hy
theorem PMap.look {b n : Nat} {X : Pl -> Option Int} {w : World} (h : PMap P K E b n X w) (k : Kp P K) (ht : P.underlying T = some (.map K E)) (he : P.underlying E = some (.int .i64)) (hz : (zeroValue E).run P w = .ok (.int .i64 0) w) {x : Pl} (hx : P64 x) :
  (Instr.lookup T (.map (some b)) (pv x) true).run P w = .ok (.tuple #[.int .i64 ((X x).getD 0), .bool (X x).isSome]) w := by
 obtain ⟨D, ho, kd⟩ := h
 have hzd : plainElem (H := Unit) P E (.int .i64 0) = some (.lit (.int .i64 0), []) := plainElem_int he (by decide)
 obtain ⟨v, ps, hrun, hR⟩ := ho.look_ok k.law ht hz hzd (k.key x hx)
 rw [(kd x hx).2] at hR
 rw [(kd x hx).1] at hrun
 have hv : v = .int .i64 ((X x).getD 0) := by
  unfold plainElem at hR
  rw [he] at hR
  cases v <;> simp at hR
  simp_all
 rw [hrun, hv]
end
def numX (L : List Pl) (p : Pl) : Option Int := if p ∈ L then some (L.idxOf p : Int) else none
theorem zNt {L : List Pl} {p : Pl} (h : p ∈ L) : numX L p = some (L.idxOf p : Int) /\ L[L.idxOf p]? = some p := by
 refine ⟨if_pos h, ?_⟩
 have := List.idxOf_lt_length_of_mem h
 rw [List.getElem?_eq_getElem this]
 exact congrArg some (List.getElem_idxOf _)
theorem zLO {L : List Pl} {p : Pl} (h : p ∉ L) : numX L p = none := if_neg h
theorem zLP {L : List Pl} {p : Pl} (h : p ∉ L) (y : Pl) : numX (L ++ [p]) y = if y = p then some (L.length : Int) else numX L y := by
 unfold numX
 by_cases e : y = p
 ·subst e
  rw [if_pos (List.mem_append_right _ (List.mem_singleton.2 rfl)), if_pos rfl, List.idxOf_append, if_neg h]
  simp
 ·rw [if_neg e]
  by_cases hy : y ∈ L
  ·rw [if_pos (List.mem_append_left _ hy), if_pos hy, List.idxOf_append, if_pos hy]
  ·rw [if_neg hy, if_neg]
   rw [List.mem_append, List.mem_singleton]
   exact fun q => q.elim hy e
end Lk
namespace Au
open Go.RowKit Go.Maps
open Im
open It (zJc isIn num zGE zGF)
structure Ka (P : Program) (K : TypeId) : Prop where
 law : Keyed P K
 key : ∀ x, W64 x -> keyOf P K (iv x) = some (ik x)
theorem zSP {P : Program} {K E : TypeId} (law : Keyed P K) (hu : P.underlying K = some (.array 2 E)) (he : P.underlying E = some (.int .i64)) (hkt : P.keyType K = true) (hcells : P.cellsOf K = 2) (ce : P.cellsOf E = 1) (n : Nat) (hn : P.types.size = n + 1) : Ka P K := by
 refine ⟨law, fun x hx => ?_⟩
 unfold keyOf iv
 rw [hu]
 simp only [hkt, Bool.true_and]
 rw [if_pos (by simp [Value.formed, hu, hcells])]
 rw [hn]
 have hr : List.range 2 = [0, 1] := rfl
 simp [Program.keyLits, hu, hcells, ce, he, hx.1, hx.2, Value.cells, ik, hr]
section
variable {P : Program} {K T E : TypeId}
def TMap (P : Program) (K E : TypeId) (b n : Nat) (X : Itm -> Option Int) (w : World) : Prop :=
 ∃ D : DataW Unit, w.ownsMap P K (plainElem P E) b n D /\ ∀ x, W64 x -> has D (ik x) = (X x).isSome /\ D.atKey (ik x) (.lit (.int .i64 0)) = .lit (.int .i64 ((X x).getD 0))
theorem TMap.made (w : World) (P : Program) (K E : TypeId) : TMap P K E w.heap.size 0 (fun _ => none) (w.alloc (.map #[] 0)) :=
 ⟨_, World.ownsMap_made w P K _, fun x _ => ⟨rfl, rfl⟩⟩
theorem TMap.mono {b n n' : Nat} {X : Itm -> Option Int} {w : World} (h : TMap P K E b n X w) (hn : n <= n') : TMap P K E b n' X w := by
 obtain ⟨D, h, k⟩ := h
 exact ⟨D, h.mono hn, k⟩
theorem TMap.eq {b n : Nat} {X Y : Itm -> Option Int} {w : World} (h : TMap P K E b n X w) (e : ∀ x, X x = Y x) : TMap P K E b n Y w := by
 obtain ⟨D, h, k⟩ := h
 exact ⟨D, h, fun x hx => by rw [← e x]; exact k x hx⟩
theorem TMap.keep {b n : Nat} {X : Itm -> Option Int} {w w' : World} (h : TMap P K E b n X w) (hb : w'.heap[b]? = w.heap[b]?) : TMap P K E b n X w' := by
 obtain ⟨D, h, k⟩ := h
 exact ⟨D, Sep.ownsMap_at h hb, k⟩
theorem TMap.store {b n : Nat} {X : Itm -> Option Int} {w : World} (h : TMap P K E b n X w) (k : Ka P K) (ht : P.underlying T = some (.map K E)) (he : P.underlying E = some (.int .i64)) (hn : n < maxLen) {x : Itm} (hx : W64 x) {t : Int} (hw : (Lit.int .i64 t).wf = true) :
  ∃ w', (Instr.mapUpdate T (.map (some b)) (iv x) (.int .i64 t)).run P w = .ok () w' /\ TMap P K E b (n + 1) (fun y => if y = x then some t else X y) w' /\ w.mapTurned w' b := by
 obtain ⟨D, ho, kd⟩ := h
 obtain ⟨w', hrun, h1, h2⟩ := ho.store k.law ht hn (k.key x hx) (plainElem_int he hw)
 refine ⟨w', hrun, ⟨_, h1, fun y hy => ?_⟩, h2⟩
 by_cases e : y = x
 ·subst e
  show _ = (if y = y then some t else X y).isSome /\ _ = DataW.lit (Lit.int .i64 ((if y = y then some t else X y).getD 0))
  rw [if_pos rfl, has_put_same ho.isMap (k.law.key (k.key y hy)), atKey_put_same ho.isMap (k.law.key (k.key y hy))]
  exact ⟨rfl, rfl⟩
 ·have hne : ik y ≠ ik x := fun q => e (zKd hy hx q)
  show _ = (if y = x then some t else X y).isSome /\ _ = DataW.lit (Lit.int .i64 ((if y = x then some t else X y).getD 0))
  rw [if_neg e, has_put_other hne, atKey_put_other hne]
  exact kd y hy
theorem zCa {ops : Array Oper} {rest : List Oper} {o : Oper} {a : Act} {Q : Exit -> Act -> World -> Prop} (w : World) (hg : o.guard = none) (m y : Operand) (hop : o.op = Op.lookup T m y true) (k : Ka P K) (ht : P.underlying T = some (.map K E)) (he : P.underlying E = some (.int .i64))
  (hz : (zeroValue E).run P w = .ok (.int .i64 0) w) (b n : Nat) (X : Itm -> Option Int) (hm : a.eval m = .map (some b)) (h : TMap P K E b n X w) (x : Itm) (hy : a.eval y = iv x) (hx : W64 x)
  (hK : wpList P ops Q rest (a.put o.dst (.tuple #[.int .i64 ((X x).getD 0), .bool (X x).isSome])) w) : wpList P ops Q (o :: rest) a w := by
 obtain ⟨D, ho, kd⟩ := h
 refine wpList_lookup_own_ok_int w hg m y T hop K E .i64 k.law ht he hz b n D hm ho _ _ hy (k.key x hx) fun d hat _ => ?_
 rw [(kd x hx).2] at hat
 simp only [DataW.lit.injEq, Lit.int.injEq, true_and] at hat
 subst hat
 rw [(kd x hx).1]
 exact hK
def SMap (P : Program) (K E : TypeId) (b n : Nat) (L : List ByteArray) (w : World) : Prop := ∃ D : DataW Unit, w.ownsMap P K (plainElem P E) b n D /\ zJc L D
theorem SMap.made (w : World) (P : Program) (K E : TypeId) : SMap P K E w.heap.size 0 [] (w.alloc (.map #[] 0)) := ⟨_, World.ownsMap_made w P K _, zGE⟩
theorem SMap.lt {b n : Nat} {L : List ByteArray} {w : World} (h : SMap P K E b n L w) : b < w.heap.size := by
 obtain ⟨D, h, _⟩ := h
 exact h.lt
theorem SMap.keep {b n : Nat} {L : List ByteArray} {w w' : World} (h : SMap P K E b n L w) (hb : w'.heap[b]? = w.heap[b]?) : SMap P K E b n L w' := by
 obtain ⟨D, h, k⟩ := h
 exact ⟨D, Sep.ownsMap_at h hb, k⟩
theorem zCZ {ops : Array Oper} {rest : List Oper} {o : Oper} {a : Act} {Q : Exit -> Act -> World -> Prop} (w : World) (hg : o.guard = none) (m y : Operand) (hop : o.op = Op.lookup T m y true) (law : Keyed P K) (hk : P.underlying K = some .string) (ht : P.underlying T = some (.map K E)) (he : P.underlying E = some (.int .i64))
  (hz : (zeroValue E).run P w = .ok (.int .i64 0) w) (b n : Nat) (L : List ByteArray) (hm : a.eval m = .map (some b)) (h : SMap P K E b n L w) (s : ByteArray) (hy : a.eval y = .string s) (hs : s.size <= maxLen)
  (hK : wpList P ops Q rest (a.put o.dst (.tuple #[.int .i64 (num L s), .bool (isIn L s)])) w) : wpList P ops Q (o :: rest) a w := by
 obtain ⟨D, ho, kd⟩ := h
 refine wpList_lookup_own_ok_int w hg m y T hop K E .i64 law ht he hz b n D hm ho _ _ hy (WideMaps.keyOf_string_mk hk hs) fun d hat _ => ?_
 rw [(kd s).2] at hat
 simp only [DataW.lit.injEq, Lit.int.injEq, true_and] at hat
 subst hat
 rw [(kd s).1]
 exact hK
theorem zEP {ops : Array Oper} {rest : List Oper} {o : Oper} {a : Act} {Q : Exit -> Act -> World -> Prop} (w : World) (hg : o.guard = none) (m y v : Operand) (hop : o.op = Op.mapUpdate T m y v) (law : Keyed P K) (hk : P.underlying K = some .string) (ht : P.underlying T = some (.map K E)) (he : P.underlying E = some (.int .i64))
  (b n : Nat) (L : List ByteArray) (hm : a.eval m = .map (some b)) (h : SMap P K E b n L w) (hn : n < maxLen) (s : ByteArray) (hy : a.eval y = .string s) (hs : s.size <= maxLen) (hnew : isIn L s = false) (z : Int) (hv : a.eval v = .int .i64 z) (hzl : z = (L.length : Int)) (hl : L.length < 9223372036854775808)
  (hK : ∀ w', SMap P K E b (n + 1) (L ++ [s]) w' -> w.grownBy w' (some b) -> wpList P ops Q rest (a.put o.dst undef) w') : wpList P ops Q (o :: rest) a w := by
 obtain ⟨D, ho, kd⟩ := h
 subst hzl
 refine wpList_mapUpdate_own w hg m y v T hop K E law ht (plainElem P E) b n D hm ho hn _ _ _ hy hv (WideMaps.keyOf_string_mk hk hs) _ [] (plainElem_int he (by simp only [Lit.wf, IntKind.min, IntKind.max, IntKind.signed, IntKind.bits, Bool.and_eq_true, decide_eq_true_eq, if_true]; omega)) fun w' h1 h2 => hK w' ⟨_, h1, zGF ho.isMap (law.key (WideMaps.keyOf_string_mk hk hs)) kd hnew⟩ h2
end
