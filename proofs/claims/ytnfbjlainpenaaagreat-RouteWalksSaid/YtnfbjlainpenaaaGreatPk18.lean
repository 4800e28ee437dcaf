/- A part of the proof. -/
import Derived.Test.YtnfbjlainpenaaaGreatPk04
set_option linter.unusedVariables false
namespace Go.Proofs.YtnfbjlainpenaaaGreat
namespace Im
open Gr (Gram zAQ zAJ ofN zCo)
abbrev Itm := Int × Int
def ltP (a b : Itm) : Prop := a.1 < b.1 \/ (a.1 = b.1 /\ a.2 < b.2)
instance (a b : Itm) : Decidable (ltP a b) := by unfold ltP; infer_instance
theorem ltP.trans {a b c : Itm} (h : ltP a b) (k : ltP b c) : ltP a c := by
 unfold ltP at *
 omega
theorem ltP.ne {a b : Itm} (h : ltP a b) : a ≠ b := fun e => by
 subst e
 unfold ltP at h
 omega
theorem ltP.not {a b : Itm} (h : ltP a b) : ¬ ltP b a := by
 unfold ltP at *
 omega
theorem zIb {a b : Itm} (h : ¬ ltP a b) (hn : a ≠ b) : ltP b a := by
 have hn' : ¬ (a.1 = b.1 /\ a.2 = b.2) := fun ⟨e1, e2⟩ => hn (Prod.ext e1 e2)
 unfold ltP at *
 omega
def Srt (l : List Itm) : Prop := l.Pairwise ltP
theorem zJK : Srt [] := List.Pairwise.nil
theorem zCO (x : Itm) : Srt [x] := List.pairwise_singleton _ _
theorem zFh : ∀ {a b : List Itm}, Srt a -> Srt b -> (∀ x, x ∈ a ↔ x ∈ b) -> a = b
 | [], [], _, _, _ => rfl
 | [], y :: b, _, _, h => by
  have := (h y).2 (List.mem_cons_self ..)
  cases this
 | x :: a, [], _, _, h => by
  have := (h x).1 (List.mem_cons_self ..)
  cases this
 | x :: a, y :: b, ha, hb, h => by
  have ha' := List.pairwise_cons.1 ha
  have hb' := List.pairwise_cons.1 hb
  have e : x = y := by
   rcases List.mem_cons.1 ((h x).1 (List.mem_cons_self ..)) with e | e
   ·exact e
   ·rcases List.mem_cons.1 ((h y).2 (List.mem_cons_self ..)) with e' | e'
    ·exact e'.symm
    ·exact absurd (ha'.1 _ e') (hb'.1 _ e).not
  subst e
  congr 1
  refine zFh ha'.2 hb'.2 fun z => ?_
  constructor
  ·intro hz
   rcases List.mem_cons.1 ((h z).1 (List.mem_cons_of_mem _ hz)) with e | e
   ·subst e
    exact absurd rfl (ha'.1 _ hz).ne
   ·exact e
  ·intro hz
   rcases List.mem_cons.1 ((h z).2 (List.mem_cons_of_mem _ hz)) with e | e
   ·subst e
    exact absurd rfl (hb'.1 _ hz).ne
   ·exact e
def Is (l : List Itm) (P : Itm -> Prop) : Prop := Srt l /\ ∀ x, x ∈ l ↔ P x
theorem Is.uniq {a b : List Itm} {P : Itm -> Prop} (h : Is a P) (k : Is b P) : a = b := zFh h.1 k.1 fun x => (h.2 x).trans (k.2 x).symm
theorem Is.iff {a : List Itm} {P Q : Itm -> Prop} (h : Is a P) (e : ∀ x, P x ↔ Q x) : Is a Q := ⟨h.1, fun x => (h.2 x).trans (e x)⟩
theorem Is.nil {P : Itm -> Prop} (h : ∀ x, ¬ P x) : Is [] P := ⟨zJK, fun x => ⟨fun hx => (List.not_mem_nil hx).elim, fun hx => absurd hx (h x)⟩⟩
def putI : List Itm -> Itm -> List Itm
 | [], x => [x]
 | y :: l, x => if ltP y x then y :: putI l x else if y = x then y :: l else x :: y :: l
theorem zCJ {x z : Itm} : ∀ {l : List Itm}, z ∈ putI l x ↔ z ∈ l \/ z = x
 | [] => by simp [putI]
 | y :: l => by
  unfold putI
  split
  ·rw [List.mem_cons, zCJ, List.mem_cons, or_assoc]
  ·split
   ·rename_i e
    subst e
    simp only [List.mem_cons]
    constructor
    ·exact fun h => .inl h
    ·rintro (h | h)
     ·exact h
     ·exact .inl h
   ·simp only [List.mem_cons]
    constructor
    ·rintro (h | h | h)
     ·exact .inr h
     ·exact .inl (.inl h)
     ·exact .inl (.inr h)
    ·rintro ((h | h) | h)
     ·exact .inr (.inl h)
     ·exact .inr (.inr h)
     ·exact .inl h
theorem zEI {x : Itm} : ∀ {l : List Itm}, Srt l -> Srt (putI l x)
 | [], _ => zCO x
 | y :: l, h => by
  have h' := List.pairwise_cons.1 h
  unfold putI
  split
  ·rename_i hl
   refine List.pairwise_cons.2 ⟨fun z hz => ?_, zEI h'.2⟩
   rcases zCJ.1 hz with e | e
   ·exact h'.1 _ e
   ·rw [e]
    exact hl
  ·split
   ·exact h
   ·rename_i hl hn
    have hx := zIb hl hn
    refine List.pairwise_cons.2 ⟨fun z hz => ?_, h⟩
    rcases List.mem_cons.1 hz with e | e
    ·rw [e]
     exact hx
    ·exact hx.trans (h'.1 _ e)
theorem zDb {x : Itm} : ∀ {l : List Itm}, Srt l -> (putI l x).length = if x ∈ l then l.length else l.length + 1
 | [], _ => by simp [putI]
 | y :: l, h => by
  have h' := List.pairwise_cons.1 h
  unfold putI
  split
  ·rename_i hl
   have hn : x ≠ y := fun e => hl.ne e.symm
   rw [List.length_cons, zDb h'.2]
   by_cases k : x ∈ l
   ·rw [if_pos k, if_pos (List.mem_cons_of_mem _ k), List.length_cons]
   ·rw [if_neg k, if_neg (by rw [List.mem_cons]; rintro (e | e); exact hn e; exact k e), List.length_cons]
  ·split
   ·rename_i e
    subst e
    rw [if_pos (List.mem_cons_self ..)]
   ·rename_i hl hn
    have hx := zIb hl hn
    rw [if_neg]
    ·rfl
    ·intro k
     rcases List.mem_cons.1 k with e | e
     ·exact hn e.symm
     ·exact (h'.1 _ e).not hx
theorem zI1 {x : Itm} : ∀ {l : List Itm} {k : Nat}, k <= l.length -> (∀ j (h : j < l.length), j < k -> ltP l[j] x) -> (∀ h : k < l.length, ¬ ltP l[k] x) ->
  putI l x = if l[k]? = some x then l else l.take k ++ x :: l.drop k
 | [], k, hk, _, _ => by
  have : k = 0 := by simpa using hk
  subst this
  simp [putI]
 | y :: l, 0, _, _, h2 => by
  have hl : ¬ ltP y x := h2 (by simp)
  unfold putI
  rw [if_neg hl]
  by_cases e : y = x
  ·subst e
   simp
  ·simp [e]
 | y :: l, k + 1, hk, h1, h2 => by
  have hl : ltP y x := h1 0 (by simp) (by omega)
  unfold putI
  rw [if_pos hl, zI1 (l := l) (k := k) (by simpa using hk) (fun j h hj => h1 (j + 1) (by simpa using h) (by omega)) (fun h => h2 (by simpa using h))]
  simp only [List.getElem?_cons_succ, List.take_succ_cons, List.drop_succ_cons]
  split <;> rfl
theorem Is.put {l : List Itm} {P : Itm -> Prop} (h : Is l P) (x : Itm) : Is (putI l x) (fun z => P z \/ z = x) := ⟨zEI h.1, fun z => by rw [zCJ, h.2]⟩
def rlen (G : Gram) (r : Int) : Nat := (zAJ G r).2.length
def zAC (G : Gram) (x : Itm) : Bool := zAQ G x.1 && decide (0 <= x.2 /\ x.2 <= (rlen G x.1 : Int))
def behB (G : Gram) (x : Itm) : Bool := zAC G x && decide (x.2 < (rlen G x.1 : Int))
def behV (G : Gram) (x : Itm) : Int := if behB G x then (zAJ G x.1).2.getD x.2.toNat 0 else 0
theorem zAU {G : Gram} {x : Itm} : zAC G x = true ↔ (0 <= x.1 /\ x.1 <= (G.rules.length : Int)) /\ (0 <= x.2 /\ x.2 <= (rlen G x.1 : Int)) := by
 unfold zAC zAQ
 rw [Bool.and_eq_true, decide_eq_true_iff, decide_eq_true_iff]
theorem zBW {G : Gram} {x : Itm} : behB G x = true ↔ zAC G x = true /\ x.2 < (rlen G x.1 : Int) := by
 unfold behB
 rw [Bool.and_eq_true, decide_eq_true_iff]
theorem zHJ {G : Gram} {x : Itm} (h : behB G x = true) : zAC G (x.1, x.2 + 1) = true := by
 obtain ⟨h1, h2⟩ := zBW.1 h
 have h3 := zAU.1 h1
 rw [zAU]
 exact ⟨h3.1, by dsimp only; omega, by dsimp only; omega⟩
theorem zBl {G : Gram} {r : Nat} (h : r <= G.rules.length) : zAC G ((r : Int), 0) = true := by
 rw [zAU]
 exact ⟨⟨by dsimp only; omega, by dsimp only; omega⟩, by dsimp only; omega, by dsimp only; omega⟩
inductive Clo (G : Gram) (L : List Itm) : Itm -> Prop
 | of {x : Itm} : x ∈ L -> zAC G x = true -> Clo G L x
 | next {y : Itm} {r : Nat} : Clo G L y -> behB G y = true -> r ∈ ofN G (behV G y) -> Clo G L ((r : Int), 0)
theorem zA0 {G : Gram} {L : List Itm} {x : Itm} (h : Clo G L x) : zAC G x = true := by
 cases h with
 | of _ h => exact h
 | next _ _ h => exact zBl (Nat.le_of_lt (zCo.1 h).1)
theorem zJq {G : Gram} {L M : List Itm} (k : ∀ x ∈ L, x ∈ M) {x : Itm} (h : Clo G L x) : Clo G M x := by
 induction h with
 | of h1 h2 => exact .of (k _ h1) h2
 | next _ h2 h3 ih => exact .next ih h2 h3
def zEO (G : Gram) (L : List Itm) (s : Int) (x : Itm) : Prop := ∃ y ∈ L, behB G y = true /\ behV G y = s /\ x = (y.1, y.2 + 1)
theorem zBm {G : Gram} {L : List Itm} {s : Int} {x : Itm} (h : zEO G L s x) : zAC G x = true /\ 0 < x.2 := by
 obtain ⟨y, _, h1, _, h2⟩ := h
 subst h2
 have := zAU.1 (zBW.1 h1).1
 exact ⟨zHJ h1, by dsimp only; omega⟩
structure Mid (G : Gram) (L out : List Itm) : Prop where
 srt : Srt out
 all : ∀ x ∈ L, zAC G x = true -> x ∈ out
 sub : ∀ x ∈ out, Clo G L x
theorem Mid.start {G : Gram} {L out : List Itm} (h : Is out (fun x => x ∈ L /\ zAC G x = true)) : Mid G L out :=
 ⟨h.1, fun x h1 h2 => (h.2 x).2 ⟨h1, h2⟩, fun x hx => .of ((h.2 x).1 hx).1 ((h.2 x).1 hx).2⟩
theorem Mid.put {G : Gram} {L out : List Itm} (m : Mid G L out) {y : Itm} {r : Nat} (hy : Clo G L y) (hb : behB G y = true) (hr : r ∈ ofN G (behV G y)) : Mid G L (putI out ((r : Int), 0)) :=
 ⟨zEI m.srt, fun x h1 h2 => zCJ.2 (.inl (m.all x h1 h2)), fun x hx => by
  rcases zCJ.1 hx with e | e
  ·exact m.sub x e
  ·rw [e]
   exact .next hy hb hr⟩
def Shut (G : Gram) (out : List Itm) : Prop := ∀ y ∈ out, behB G y = true -> ∀ r ∈ ofN G (behV G y), ((r : Int), (0 : Int)) ∈ out
theorem Mid.done {G : Gram} {L out : List Itm} (m : Mid G L out) (h : Shut G out) : Is out (Clo G L) := by
 refine ⟨m.srt, fun x => ⟨m.sub x, fun k => ?_⟩⟩
 induction k with
 | of h1 h2 => exact m.all _ h1 h2
 | next _ h2 h3 ih => exact h _ ih h2 _ h3
theorem Mid.right {G : Gram} {L out : List Itm} (m : Mid G L out) {x : Itm} (h : x ∈ out) : zAC G x = true := zA0 (m.sub x h)
def allI (G : Gram) : List Itm := (List.range (G.rules.length + 1)).flatMap fun (r : Nat) => (List.range (rlen G (r : Int) + 1)).map fun (d : Nat) => ((r : Int), (d : Int))
theorem zCn {G : Gram} {x : Itm} (h : zAC G x = true) : x ∈ allI G := by
 obtain ⟨⟨h1, h2⟩, h3, h4⟩ := zAU.1 h
 obtain ⟨r, d⟩ := x
 dsimp only at h1 h2 h3 h4
 obtain ⟨r, rfl⟩ := Int.eq_ofNat_of_zero_le h1
 obtain ⟨d, rfl⟩ := Int.eq_ofNat_of_zero_le h3
 unfold allI
 rw [List.mem_flatMap]
 exact ⟨r, List.mem_range.2 (by omega), List.mem_map.2 ⟨d, List.mem_range.2 (by omega), rfl⟩⟩
theorem zCy {l : List Itm} (h : Srt l) : l.Nodup := h.imp fun k => k.ne
theorem zBE : ∀ {l M : List Itm}, l.Nodup -> (∀ x ∈ l, x ∈ M) -> l.length <= M.length
 | [], _, _, _ => Nat.zero_le _
 | x :: l, M, h, k => by
  have h' := List.nodup_cons.1 h
  have hx := k x (List.mem_cons_self ..)
  have := zBE (M := M.erase x) h'.2 fun z hz => (List.mem_erase_of_ne (fun e => h'.1 (by rw [← e]; exact hz))).2 (k z (List.mem_cons_of_mem _ hz))
  rw [List.length_erase_of_mem hx] at this
  have := List.length_pos_of_mem hx
  rw [List.length_cons]
  omega
theorem zBe {G : Gram} {l : List Itm} (h : Srt l) (k : ∀ x ∈ l, zAC G x = true) : l.length <= (allI G).length :=
 zBE (zCy h) fun x hx => zCn (k x hx)
theorem zK2 {L : List Itm} {Q : Itm -> Prop} {F : Itm -> Itm} {out : List Itm} {k : Nat} (h : Is out (fun x => ∃ j, ∃ h : j < L.length, j < k /\ x = F L[j] /\ Q L[j])) (hk : k < L.length) (hq : Q L[k]) :
  Is (putI out (F L[k])) (fun x => ∃ j, ∃ h : j < L.length, j < k + 1 /\ x = F L[j] /\ Q L[j]) := by
 refine (h.put (F L[k])).iff fun x => ?_
 constructor
 ·rintro (⟨j, h1, h2, h3⟩ | e)
  ·exact ⟨j, h1, by omega, h3⟩
  ·exact ⟨k, hk, by omega, e, hq⟩
 ·rintro ⟨j, h1, h2, h3, h4⟩
  by_cases e : j = k
  ·subst e
   exact .inr h3
  ·exact .inl ⟨j, h1, by omega, h3, h4⟩
theorem zJW {L : List Itm} {Q : Itm -> Prop} {F : Itm -> Itm} {out : List Itm} {k : Nat} (h : Is out (fun x => ∃ j, ∃ h : j < L.length, j < k /\ x = F L[j] /\ Q L[j])) (hk : k < L.length) (hq : ¬ Q L[k]) :
  Is out (fun x => ∃ j, ∃ h : j < L.length, j < k + 1 /\ x = F L[j] /\ Q L[j]) := by
 refine h.iff fun x => ?_
 constructor
 ·rintro ⟨j, h1, h2, h3⟩
  exact ⟨j, h1, by omega, h3⟩
 ·rintro ⟨j, h1, h2, h3, h4⟩
  by_cases e : j = k
  ·subst e
   exact absurd h4 hq
  ·exact ⟨j, h1, by omega, h3, h4⟩
theorem zCe {L : List Itm} {Q : Itm -> Prop} {F : Itm -> Itm} (x : Itm) : (∃ j, ∃ h : j < L.length, j < L.length /\ x = F L[j] /\ Q L[j]) ↔ ∃ y ∈ L, x = F y /\ Q y := by
 constructor
 ·rintro ⟨j, h1, _, h3, h4⟩
  exact ⟨_, List.getElem_mem h1, h3, h4⟩
 ·rintro ⟨y, hy, h3, h4⟩
  obtain ⟨j, h1, rfl⟩ := List.getElem_of_mem hy
  exact ⟨j, h1, h1, h3, h4⟩
def adds (out : List Itm) (rs : List Nat) : List Itm := rs.foldl (fun l (r : Nat) => putI l ((r : Int), 0)) out
theorem zHc (out : List Itm) (rs : List Nat) (r : Nat) : adds out (rs ++ [r]) = putI (adds out rs) ((r : Int), 0) := by simp [adds]
theorem zBN {x : Itm} : ∀ {rs : List Nat} {out : List Itm}, x ∈ adds out rs ↔ x ∈ out \/ ∃ r ∈ rs, x = ((r : Int), 0)
 | [], out => by simp [adds]
 | r :: rs, out => by
  show x ∈ adds (putI out ((r : Int), 0)) rs ↔ _
  rw [zBN, zCJ]
  simp only [List.mem_cons]
  constructor
  ·rintro ((h | h) | ⟨q, h1, h2⟩)
   ·exact .inl h
   ·exact .inr ⟨r, .inl rfl, h⟩
   ·exact .inr ⟨q, .inr h1, h2⟩
  ·rintro (h | ⟨q, rfl | h1, h2⟩)
   ·exact .inl (.inl h)
   ·exact .inl (.inr h2)
   ·exact .inr ⟨q, h1, h2⟩
theorem zEH : ∀ {rs : List Nat} {out : List Itm}, Srt out -> Srt (adds out rs)
 | [], _, h => h
 | r :: rs, out, h => by
  show Srt (adds (putI out ((r : Int), 0)) rs)
  exact zEH (zEI h)
theorem zLM {rs : List Nat} {out : List Itm} (h : Srt out) : out.length <= (adds out rs).length := zBE (zCy h) fun x hx => zBN.2 (.inl hx)
theorem zHb {rs : List Nat} {out : List Itm} (h : Srt out) (hl : (adds out rs).length = out.length) : (∀ r ∈ rs, ((r : Int), (0 : Int)) ∈ out) /\ adds out rs = out := by
 have key : ∀ r ∈ rs, ((r : Int), (0 : Int)) ∈ out := fun r hr => by
  rcases Classical.em (((r : Int), (0 : Int)) ∈ out) with k | k
  ·exact k
  ·exfalso
   have hn : (((r : Int), (0 : Int)) :: out).Nodup := List.nodup_cons.2 ⟨k, zCy h⟩
   have := zBE (M := adds out rs) hn fun x hx => by
    rcases List.mem_cons.1 hx with e | e
    ·exact zBN.2 (.inr ⟨r, hr, e⟩)
    ·exact zBN.2 (.inl e)
   rw [List.length_cons] at this
   omega
 refine ⟨key, zFh (zEH h) h fun x => ?_⟩
 rw [zBN]
 constructor
 ·rintro (k | ⟨r, hr, rfl⟩)
  ·exact k
  ·exact key r hr
 ·exact .inl
theorem Mid.adds {G : Gram} {L out : List Itm} (m : Mid G L out) {y : Itm} (hy : Clo G L y) (hb : behB G y = true) : Mid G L (adds out (ofN G (behV G y))) :=
 ⟨zEH m.srt, fun x h1 h2 => zBN.2 (.inl (m.all x h1 h2)), fun x hx => by
  rcases zBN.1 hx with e | ⟨r, hr, rfl⟩
  ·exact m.sub x e
  ·exact .next hy hb hr⟩
theorem Mid.len {G : Gram} {L out : List Itm} (m : Mid G L out) : out.length <= (allI G).length := zBe m.srt fun x hx => m.right hx
theorem zLN {G : Gram} {B : Nat} (h : ∀ r : Nat, r <= G.rules.length -> rlen G (r : Int) <= B) : (allI G).length <= (G.rules.length + 1) * (B + 1) := by
 unfold allI
 have : ∀ n, n <= G.rules.length + 1 -> ((List.range n).flatMap fun (r : Nat) => (List.range (rlen G (r : Int) + 1)).map fun (d : Nat) => ((r : Int), (d : Int))).length <= n * (B + 1) := fun n => by
  induction n with
  | zero => simp
  | succ n ih =>
   intro hn
   rw [List.range_succ, List.flatMap_append, List.length_append]
   have h1 := ih (by omega)
   have h2 := h n (by omega)
   simp only [List.flatMap_cons, List.flatMap_nil, List.append_nil, List.length_map, List.length_range]
   rw [Nat.succ_mul]
   omega
 exact this _ (Nat.le_refl _)
