/- A part of the proof. -/
import Derived.Test.YtbcgmiocolpjoaaGreatPk12
set_option linter.unusedVariables false
namespace Go.Proofs.YtbcgmiocolpjoaaGreat
namespace Im
open Gr (Gram zAW zAN ofN zDJ)
abbrev Itm := Int × Int
def ltP (a b : Itm) : Prop := a.1 < b.1 \/ (a.1 = b.1 /\ a.2 < b.2)
instance (a b : Itm) : Decidable (ltP a b) := by unfold ltP; infer_instance
theorem ltP.trans {a b c : Itm} (h : ltP a b) (k : ltP b c) : ltP a c := by
 unfold ltP at *
 omega
theorem ltP.ne {a b : Itm} (h : ltP a b) : a ≠ b := fun e => by
 subst e
 unfold ltP at h
 omega
theorem ltP.not {a b : Itm} (h : ltP a b) : ¬ ltP b a := by
 unfold ltP at *
 omega
theorem zJf {a b : Itm} (h : ¬ ltP a b) (hn : a ≠ b) : ltP b a := by
 have hn' : ¬ (a.1 = b.1 /\ a.2 = b.2) := fun ⟨e1, e2⟩ => hn (Prod.ext e1 e2)
 unfold ltP at *
 omega
def Srt (l : List Itm) : Prop := l.Pairwise ltP
theorem zKS : Srt [] := List.Pairwise.nil
theorem zCo (x : Itm) : Srt [x] := List.pairwise_singleton _ _
theorem zGY : ∀ {a b : List Itm}, Srt a -> Srt b -> (∀ x, x ∈ a ↔ x ∈ b) -> a = b
 | [], [], _, _, _ => rfl
 | [], y :: b, _, _, h => by
  have := (h y).2 (List.mem_cons_self ..)
  cases this
 | x :: a, [], _, _, h => by
  have := (h x).1 (List.mem_cons_self ..)
  cases this
 | x :: a, y :: b, ha, hb, h => by
  have ha' := List.pairwise_cons.1 ha
  have hb' := List.pairwise_cons.1 hb
  have e : x = y := by
   rcases List.mem_cons.1 ((h x).1 (List.mem_cons_self ..)) with e | e
   ·exact e
   ·rcases List.mem_cons.1 ((h y).2 (List.mem_cons_self ..)) with e' | e'
    ·exact e'.symm
    ·exact absurd (ha'.1 _ e') (hb'.1 _ e).not
  subst e
  congr 1
  refine zGY ha'.2 hb'.2 fun z => ?_
  constructor
  ·intro hz
   rcases List.mem_cons.1 ((h z).1 (List.mem_cons_of_mem _ hz)) with e | e
   ·subst e
    exact absurd rfl (ha'.1 _ hz).ne
   ·exact e
  ·intro hz
   rcases List.mem_cons.1 ((h z).2 (List.mem_cons_of_mem _ hz)) with e | e
   ·subst e
    exact absurd rfl (hb'.1 _ hz).ne
   ·exact e
def Is (l : List Itm) (P : Itm -> Prop) : Prop := Srt l /\ ∀ x, x ∈ l ↔ P x
theorem Is.uniq {a b : List Itm} {P : Itm -> Prop} (h : Is a P) (k : Is b P) : a = b := zGY h.1 k.1 fun x => (h.2 x).trans (k.2 x).symm
theorem Is.iff {a : List Itm} {P Q : Itm -> Prop} (h : Is a P) (e : ∀ x, P x ↔ Q x) : Is a Q := ⟨h.1, fun x => (h.2 x).trans (e x)⟩
theorem Is.nil {P : Itm -> Prop} (h : ∀ x, ¬ P x) : Is [] P := ⟨zKS, fun x => ⟨fun hx => (List.not_mem_nil hx).elim, fun hx => absurd hx (h x)⟩⟩
def putI : List Itm -> Itm -> List Itm
 | [], x => [x]
 | y :: l, x => if ltP y x then y :: putI l x else if y = x then y :: l else x :: y :: l
theorem zCj {x z : Itm} : ∀ {l : List Itm}, z ∈ putI l x ↔ z ∈ l \/ z = x
 | [] => by simp [putI]
 | y :: l => by
  unfold putI
  split
  ·rw [List.mem_cons, zCj, List.mem_cons, or_assoc]
  ·split
   ·rename_i e
    subst e
    simp only [List.mem_cons]
    constructor
    ·exact fun h => .inl h
    ·rintro (h | h)
     ·exact h
     ·exact .inl h
   ·simp only [List.mem_cons]
    constructor
    ·rintro (h | h | h)
     ·exact .inr h
     ·exact .inl (.inl h)
     ·exact .inl (.inr h)
    ·rintro ((h | h) | h)
     ·exact .inr (.inl h)
     ·exact .inr (.inr h)
     ·exact .inl h
theorem zE5 {x : Itm} : ∀ {l : List Itm}, Srt l -> Srt (putI l x)
 | [], _ => zCo x
 | y :: l, h => by
  have h' := List.pairwise_cons.1 h
  unfold putI
  split
  ·rename_i hl
   refine List.pairwise_cons.2 ⟨fun z hz => ?_, zE5 h'.2⟩
   rcases zCj.1 hz with e | e
   ·exact h'.1 _ e
   ·rw [e]
    exact hl
  ·split
   ·exact h
   ·rename_i hl hn
    have hx := zJf hl hn
    refine List.pairwise_cons.2 ⟨fun z hz => ?_, h⟩
    rcases List.mem_cons.1 hz with e | e
    ·rw [e]
     exact hx
    ·exact hx.trans (h'.1 _ e)
theorem zEE {x : Itm} : ∀ {l : List Itm}, Srt l -> (putI l x).length = if x ∈ l then l.length else l.length + 1
 | [], _ => by simp [putI]
 | y :: l, h => by
  have h' := List.pairwise_cons.1 h
  unfold putI
  split
  ·rename_i hl
   have hn : x ≠ y := fun e => hl.ne e.symm
   rw [List.length_cons, zEE h'.2]
   by_cases k : x ∈ l
   ·rw [if_pos k, if_pos (List.mem_cons_of_mem _ k), List.length_cons]
   ·rw [if_neg k, if_neg (by rw [List.mem_cons]; rintro (e | e); exact hn e; exact k e), List.length_cons]
  ·split
   ·rename_i e
    subst e
    rw [if_pos (List.mem_cons_self ..)]
   ·rename_i hl hn
    have hx := zJf hl hn
    rw [if_neg]
    ·rfl
    ·intro k
     rcases List.mem_cons.1 k with e | e
     ·exact hn e.symm
     ·exact (h'.1 _ e).not hx
theorem zJ4 {x : Itm} : ∀ {l : List Itm} {k : Nat}, k <= l.length -> (∀ j (h : j < l.length), j < k -> ltP l[j] x) -> (∀ h : k < l.length, ¬ ltP l[k] x) ->
  putI l x = if l[k]? = some x then l else l.take k ++ x :: l.drop k
 | [], k, hk, _, _ => by
  have : k = 0 := by simpa using hk
  subst this
  simp [putI]
 | y :: l, 0, _, _, h2 => by
  have hl : ¬ ltP y x := h2 (by simp)
  unfold putI
  rw [if_neg hl]
  by_cases e : y = x
  ·subst e
   simp
  ·simp [e]
 | y :: l, k + 1, hk, h1, h2 => by
  have hl : ltP y x := h1 0 (by simp) (by omega)
  unfold putI
  rw [if_pos hl, zJ4 (l := l) (k := k) (by simpa using hk) (fun j h hj => h1 (j + 1) (by simpa using h) (by omega)) (fun h => h2 (by simpa using h))]
  simp only [List.getElem?_cons_succ, List.take_succ_cons, List.drop_succ_cons]
  split <;> rfl
theorem Is.put {l : List Itm} {P : Itm -> Prop} (h : Is l P) (x : Itm) : Is (putI l x) (fun z => P z \/ z = x) := ⟨zE5 h.1, fun z => by rw [zCj, h.2]⟩
def rlen (G : Gram) (r : Int) : Nat := (zAN G r).2.length
def zAD (G : Gram) (x : Itm) : Bool := zAW G x.1 && decide (0 <= x.2 /\ x.2 <= (rlen G x.1 : Int))
def behB (G : Gram) (x : Itm) : Bool := zAD G x && decide (x.2 < (rlen G x.1 : Int))
def behV (G : Gram) (x : Itm) : Int := if behB G x then (zAN G x.1).2.getD x.2.toNat 0 else 0
theorem zAc {G : Gram} {x : Itm} : zAD G x = true ↔ (0 <= x.1 /\ x.1 <= (G.rules.length : Int)) /\ (0 <= x.2 /\ x.2 <= (rlen G x.1 : Int)) := by
 unfold zAD zAW
 rw [Bool.and_eq_true, decide_eq_true_iff, decide_eq_true_iff]
theorem zBi {G : Gram} {x : Itm} : behB G x = true ↔ zAD G x = true /\ x.2 < (rlen G x.1 : Int) := by
 unfold behB
 rw [Bool.and_eq_true, decide_eq_true_iff]
theorem zIH {G : Gram} {x : Itm} (h : behB G x = true) : zAD G (x.1, x.2 + 1) = true := by
 obtain ⟨h1, h2⟩ := zBi.1 h
 have h3 := zAc.1 h1
 rw [zAc]
 exact ⟨h3.1, by dsimp only; omega, by dsimp only; omega⟩
theorem zB0 {G : Gram} {r : Nat} (h : r <= G.rules.length) : zAD G ((r : Int), 0) = true := by
 rw [zAc]
 exact ⟨⟨by dsimp only; omega, by dsimp only; omega⟩, by dsimp only; omega, by dsimp only; omega⟩
inductive Clo (G : Gram) (L : List Itm) : Itm -> Prop
 | of {x : Itm} : x ∈ L -> zAD G x = true -> Clo G L x
 | next {y : Itm} {r : Nat} : Clo G L y -> behB G y = true -> r ∈ ofN G (behV G y) -> Clo G L ((r : Int), 0)
theorem zBD {G : Gram} {L : List Itm} {x : Itm} (h : Clo G L x) : zAD G x = true := by
 cases h with
 | of _ h => exact h
 | next _ _ h => exact zB0 (Nat.le_of_lt (zDJ.1 h).1)
theorem zK4 {G : Gram} {L M : List Itm} (k : ∀ x ∈ L, x ∈ M) {x : Itm} (h : Clo G L x) : Clo G M x := by
 induction h with
 | of h1 h2 => exact .of (k _ h1) h2
 | next _ h2 h3 ih => exact .next ih h2 h3
def zFC (G : Gram) (L : List Itm) (s : Int) (x : Itm) : Prop := ∃ y ∈ L, behB G y = true /\ behV G y = s /\ x = (y.1, y.2 + 1)
theorem zB2 {G : Gram} {L : List Itm} {s : Int} {x : Itm} (h : zFC G L s x) : zAD G x = true /\ 0 < x.2 := by
 obtain ⟨y, _, h1, _, h2⟩ := h
 subst h2
 have := zAc.1 (zBi.1 h1).1
 exact ⟨zIH h1, by dsimp only; omega⟩
structure Mid (G : Gram) (L out : List Itm) : Prop where
 srt : Srt out
 all : ∀ x ∈ L, zAD G x = true -> x ∈ out
 sub : ∀ x ∈ out, Clo G L x
theorem Mid.start {G : Gram} {L out : List Itm} (h : Is out (fun x => x ∈ L /\ zAD G x = true)) : Mid G L out :=
 ⟨h.1, fun x h1 h2 => (h.2 x).2 ⟨h1, h2⟩, fun x hx => .of ((h.2 x).1 hx).1 ((h.2 x).1 hx).2⟩
theorem Mid.put {G : Gram} {L out : List Itm} (m : Mid G L out) {y : Itm} {r : Nat} (hy : Clo G L y) (hb : behB G y = true) (hr : r ∈ ofN G (behV G y)) : Mid G L (putI out ((r : Int), 0)) :=
 ⟨zE5 m.srt, fun x h1 h2 => zCj.2 (.inl (m.all x h1 h2)), fun x hx => by
  rcases zCj.1 hx with e | e
  ·exact m.sub x e
  ·rw [e]
   exact .next hy hb hr⟩
def Shut (G : Gram) (out : List Itm) : Prop := ∀ y ∈ out, behB G y = true -> ∀ r ∈ ofN G (behV G y), ((r : Int), (0 : Int)) ∈ out
theorem Mid.done {G : Gram} {L out : List Itm} (m : Mid G L out) (h : Shut G out) : Is out (Clo G L) := by
 refine ⟨m.srt, fun x => ⟨m.sub x, fun k => ?_⟩⟩
 induction k with
 | of h1 h2 => exact m.all _ h1 h2
 | next _ h2 h3 ih => exact h _ ih h2 _ h3
theorem Mid.right {G : Gram} {L out : List Itm} (m : Mid G L out) {x : Itm} (h : x ∈ out) : zAD G x = true := zBD (m.sub x h)
def allI (G : Gram) : List Itm := (List.range (G.rules.length + 1)).flatMap fun (r : Nat) => (List.range (rlen G (r : Int) + 1)).map fun (d : Nat) => ((r : Int), (d : Int))
theorem zDI {G : Gram} {x : Itm} (h : zAD G x = true) : x ∈ allI G := by
 obtain ⟨⟨h1, h2⟩, h3, h4⟩ := zAc.1 h
 obtain ⟨r, d⟩ := x
 dsimp only at h1 h2 h3 h4
 obtain ⟨r, rfl⟩ := Int.eq_ofNat_of_zero_le h1
 obtain ⟨d, rfl⟩ := Int.eq_ofNat_of_zero_le h3
 unfold allI
 rw [List.mem_flatMap]
 exact ⟨r, List.mem_range.2 (by omega), List.mem_map.2 ⟨d, List.mem_range.2 (by omega), rfl⟩⟩
theorem zDW {l : List Itm} (h : Srt l) : l.Nodup := h.imp fun k => k.ne
theorem zBU : ∀ {l M : List Itm}, l.Nodup -> (∀ x ∈ l, x ∈ M) -> l.length <= M.length
 | [], _, _, _ => Nat.zero_le _
 | x :: l, M, h, k => by
  have h' := List.nodup_cons.1 h
  have hx := k x (List.mem_cons_self ..)
  have := zBU (M := M.erase x) h'.2 fun z hz => (List.mem_erase_of_ne (fun e => h'.1 (by rw [← e]; exact hz))).2 (k z (List.mem_cons_of_mem _ hz))
  rw [List.length_erase_of_mem hx] at this
  have := List.length_pos_of_mem hx
  rw [List.length_cons]
  omega
theorem zBt {G : Gram} {l : List Itm} (h : Srt l) (k : ∀ x ∈ l, zAD G x = true) : l.length <= (allI G).length :=
 zBU (zDW h) fun x hx => zDI (k x hx)
theorem zMO {L : List Itm} {Q : Itm -> Prop} {F : Itm -> Itm} {out : List Itm} {k : Nat} (h : Is out (fun x => ∃ j, ∃ h : j < L.length, j < k /\ x = F L[j] /\ Q L[j])) (hk : k < L.length) (hq : Q L[k]) :
  Is (putI out (F L[k])) (fun x => ∃ j, ∃ h : j < L.length, j < k + 1 /\ x = F L[j] /\ Q L[j]) := by
 refine (h.put (F L[k])).iff fun x => ?_
 constructor
 ·rintro (⟨j, h1, h2, h3⟩ | e)
  ·exact ⟨j, h1, by omega, h3⟩
  ·exact ⟨k, hk, by omega, e, hq⟩
 ·rintro ⟨j, h1, h2, h3, h4⟩
  by_cases e : j = k
  ·subst e
   exact .inr h3
  ·exact .inl ⟨j, h1, by omega, h3, h4⟩
theorem zKi {L : List Itm} {Q : Itm -> Prop} {F : Itm -> Itm} {out : List Itm} {k : Nat} (h : Is out (fun x => ∃ j, ∃ h : j < L.length, j < k /\ x = F L[j] /\ Q L[j])) (hk : k < L.length) (hq : ¬ Q L[k]) :
  Is out (fun x => ∃ j, ∃ h : j < L.length, j < k + 1 /\ x = F L[j] /\ Q L[j]) := by
 refine h.iff fun x => ?_
 constructor
 ·rintro ⟨j, h1, h2, h3⟩
  exact ⟨j, h1, by omega, h3⟩
 ·rintro ⟨j, h1, h2, h3, h4⟩
  by_cases e : j = k
  ·subst e
   exact absurd h4 hq
  ·exact ⟨j, h1, by omega, h3, h4⟩
theorem zC5 {L : List Itm} {Q : Itm -> Prop} {F : Itm -> Itm} (x : Itm) : (∃ j, ∃ h : j < L.length, j < L.length /\ x = F L[j] /\ Q L[j]) ↔ ∃ y ∈ L, x = F y /\ Q y := by
 constructor
 ·rintro ⟨j, h1, _, h3, h4⟩
  exact ⟨_, List.getElem_mem h1, h3, h4⟩
 ·rintro ⟨y, hy, h3, h4⟩
  obtain ⟨j, h1, rfl⟩ := List.getElem_of_mem hy
  exact ⟨j, h1, h1, h3, h4⟩
def adds (out : List Itm) (rs : List Nat) : List Itm := rs.foldl (fun l (r : Nat) => putI l ((r : Int), 0)) out
theorem zIb (out : List Itm) (rs : List Nat) (r : Nat) : adds out (rs ++ [r]) = putI (adds out rs) ((r : Int), 0) := by simp [adds]
theorem zBa {x : Itm} : ∀ {rs : List Nat} {out : List Itm}, x ∈ adds out rs ↔ x ∈ out \/ ∃ r ∈ rs, x = ((r : Int), 0)
 | [], out => by simp [adds]
 | r :: rs, out => by
  show x ∈ adds (putI out ((r : Int), 0)) rs ↔ _
  rw [zBa, zCj]
  simp only [List.mem_cons]
  constructor
  ·rintro ((h | h) | ⟨q, h1, h2⟩)
   ·exact .inl h
   ·exact .inr ⟨r, .inl rfl, h⟩
   ·exact .inr ⟨q, .inr h1, h2⟩
  ·rintro (h | ⟨q, rfl | h1, h2⟩)
   ·exact .inl (.inl h)
   ·exact .inl (.inr h2)
   ·exact .inr ⟨q, h1, h2⟩
theorem zE4 : ∀ {rs : List Nat} {out : List Itm}, Srt out -> Srt (adds out rs)
 | [], _, h => h
 | r :: rs, out, h => by
  show Srt (adds (putI out ((r : Int), 0)) rs)
  exact zE4 (zE5 h)
theorem zMk {rs : List Nat} {out : List Itm} (h : Srt out) : out.length <= (adds out rs).length := zBU (zDW h) fun x hx => zBa.2 (.inl hx)
theorem zIa {rs : List Nat} {out : List Itm} (h : Srt out) (hl : (adds out rs).length = out.length) : (∀ r ∈ rs, ((r : Int), (0 : Int)) ∈ out) /\ adds out rs = out := by
 have key : ∀ r ∈ rs, ((r : Int), (0 : Int)) ∈ out := fun r hr => by
  rcases Classical.em (((r : Int), (0 : Int)) ∈ out) with k | k
  ·exact k
  ·exfalso
   have hn : (((r : Int), (0 : Int)) :: out).Nodup := List.nodup_cons.2 ⟨k, zDW h⟩
   have := zBU (M := adds out rs) hn fun x hx => by
    rcases List.mem_cons.1 hx with e | e
    ·exact zBa.2 (.inr ⟨r, hr, e⟩)
    ·exact zBa.2 (.inl e)
   rw [List.length_cons] at this
   omega
 refine ⟨key, zGY (zE4 h) h fun x => ?_⟩
 rw [zBa]
 constructor
 ·rintro (k | ⟨r, hr, rfl⟩)
  ·exact k
  ·exact key r hr
 ·exact .inl
theorem Mid.adds {G : Gram} {L out : List Itm} (m : Mid G L out) {y : Itm} (hy : Clo G L y) (hb : behB G y = true) : Mid G L (adds out (ofN G (behV G y))) :=
 ⟨zE4 m.srt, fun x h1 h2 => zBa.2 (.inl (m.all x h1 h2)), fun x hx => by
  rcases zBa.1 hx with e | ⟨r, hr, rfl⟩
  ·exact m.sub x e
  ·exact .next hy hb hr⟩
theorem Mid.len {G : Gram} {L out : List Itm} (m : Mid G L out) : out.length <= (allI G).length := zBt m.srt fun x hx => m.right hx
theorem zMl {G : Gram} {B : Nat} (h : ∀ r : Nat, r <= G.rules.length -> rlen G (r : Int) <= B) : (allI G).length <= (G.rules.length + 1) * (B + 1) := by
 unfold allI
 have : ∀ n, n <= G.rules.length + 1 -> ((List.range n).flatMap fun (r : Nat) => (List.range (rlen G (r : Int) + 1)).map fun (d : Nat) => ((r : Int), (d : Int))).length <= n * (B + 1) := fun n => by
  induction n with
  | zero => simp
  | succ n ih =>
   intro hn
   rw [List.range_succ, List.flatMap_append, List.length_append]
   have h1 := ih (by omega)
   have h2 := h n (by omega)
   simp only [List.flatMap_cons, List.flatMap_nil, List.append_nil, List.length_map, List.length_range]
   rw [Nat.succ_mul]
   omega
 exact this _ (Nat.le_refl _)
end Im
namespace Rw
open Go.RowKit Go.Maps
theorem zDn {P : Program} (w : World) (t ty : TypeId) (base : Nat) (e : TypeId) (i : TypeInfo) (z : Value) (size bytes : Nat) (ht : P.underlying t = some (.slice e)) (hi : P.info? e = some i) (hz : i.zero = some z)
  (hsize : i.size = size) (hby : i.bytes = bytes) (hzs : z.cells.size = size) (hpos : 0 < size) (v : Value) (n : Nat) (xs : List Value) (hown : w.ownsRow base e size v n xs)
  (a : Option Addr) (m c : Nat) (news : List Value) (hl : news.length = m * size) (hr : ∀ ad, a = some ad -> ∀ j u, news[j]? = some u -> w.cell? (ad.add j) = some u) (hn : a = none -> m = 0) (h1 : ∀ u ∈ news, u.oneCell' = true)
  (h63 : n + m <= maxLen) (hbytes : (n + m) * bytes <= 140737488355328) (hbase : base <= w.heap.size) :
  ∃ v' w', (Builtin.append_ #[t, t] ty #[v, .slice a m c]).run P w = .ok v' w' /\ w'.ownsRow base e size v' (n + m) (xs ++ news) /\ w.grownBy w' v.ownBlock /\ (v'.ownBlock = v.ownBlock \/ v'.ownBlock = some w.heap.size) := by
 cases a with
 | some ad =>
  obtain ⟨v', w', h2, h3, h4, _, h5⟩ := run_append_own_at (P := P) w base t ty e i z size bytes ht hi hz hsize hby hzs hpos v n xs hown ad m c news hl (hr ad rfl) h1 h63 hbytes hbase
  exact ⟨v', w', h2, h3, h4, h5⟩
 | none =>
  obtain rfl := hn rfl
  have h0 : news = [] := List.eq_nil_of_length_eq_zero (by simpa using hl)
  subst h0
  refine ⟨v, w, ?_, by simpa using hown, ⟨rfl, rfl, rfl, Nat.le_refl _, fun _ _ _ => rfl⟩, .inl rfl⟩
  rcases hown.2 with ⟨rfl, rfl⟩ | ⟨g, cap, cur, rfl, hbg, hg, hnc, hcm, hcs, htake⟩
  ·simp [Builtin.append_, run_underlying ht, sizeOf, typeInfo, hi, Builtin.lenOf, Builtin.firstCells]
  ·simp [Builtin.append_, run_underlying ht, sizeOf, typeInfo, hi, Builtin.lenOf, Builtin.firstCells, loadCells, storeCells, hnc]
theorem zE9 {P : Program} (w : World) {o : Oper} {a : Act} {K : Act -> World -> Prop} {Q : Exit -> Act -> World -> Prop} (s x : Operand) (t : TypeId)
  (ho : o.op = .call { callee := .builtin .append, args := #[s, x], argTypes := #[t, t] })
  (base : Nat) (e : TypeId) (i : TypeInfo) (z : Value) (size bytes : Nat) (ht : P.underlying t = some (.slice e)) (hi : P.info? e = some i) (hz : i.zero = some z)
  (hsize : i.size = size) (hby : i.bytes = bytes) (hzs : z.cells.size = size) (hpos : 0 < size) (v : Value) (n : Nat) (xs : List Value) (hs : a.eval s = v) (hown : w.ownsRow base e size v n xs)
  (ad : Option Addr) (m c : Nat) (news : List Value) (hx : a.eval x = .slice ad m c) (hl : news.length = m * size) (hr : ∀ p, ad = some p -> ∀ j u, news[j]? = some u -> w.cell? (p.add j) = some u) (hn : ad = none -> m = 0) (h1 : ∀ u ∈ news, u.oneCell' = true)
  (h63 : n + m <= maxLen) (hbytes : (n + m) * bytes <= 140737488355328) (hbase : base <= w.heap.size)
  (h : ∀ v' w', w'.ownsRow base e size v' (n + m) (xs ++ news) -> w.grownBy w' v.ownBlock -> (v'.ownBlock = v.ownBlock \/ v'.ownBlock = some w.heap.size) -> K (a.put o.dst v') w') : o.wp P a w K Q := by
 obtain ⟨v', w', hr, h2, h3, h4⟩ := zDn (P := P) w t o.type base e i z size bytes ht hi hz hsize hby hzs hpos v n xs hown ad m c news hl hr hn h1 h63 hbytes hbase
 unfold Oper.wp execOp
 simp only [ho, resolve, invoke, builtin, Sem.run_bind, Sem.run_pure, Result.andThen_ok, List.map_toArray, List.map_cons, List.map_nil, hs, hx, hr]
 exact h v' w' h2 h3 h4
theorem zBu {P : Program} (w : World) {ops : Array Oper} {o : Oper} {a : Act} {K : Act -> World -> Prop} {Q : Exit -> Act -> World -> Prop} {E : Prop} (hgd : o.guard = none) (s x : Operand) (t : TypeId)
  (ho : o.op = .call { callee := .builtin .append, args := #[s, x], argTypes := #[t, t] })
  (base : Nat) (e : TypeId) (i : TypeInfo) (z : Value) (size bytes : Nat) (ht : P.underlying t = some (.slice e)) (hi : P.info? e = some i) (hz : i.zero = some z)
  (hsize : i.size = size) (hby : i.bytes = bytes) (hzs : z.cells.size = size) (hpos : 0 < size) (v : Value) (n : Nat) (xs : List Value) (hs : a.eval s = v) (hown : w.ownsRow base e size v n xs)
  (ad : Option Addr) (m c : Nat) (news : List Value) (hx : a.eval x = .slice ad m c) (hl : news.length = m * size) (hr : ∀ p, ad = some p -> ∀ j u, news[j]? = some u -> w.cell? (p.add j) = some u) (hn : ad = none -> m = 0) (h1 : ∀ u ∈ news, u.oneCell' = true)
  (h63 : n + m <= maxLen) (hbytes : (n + m) * bytes <= 140737488355328) (hbase : base <= w.heap.size)
  (h : ∀ v' w', w'.ownsRow base e size v' (n + m) (xs ++ news) -> w.grownBy w' v.ownBlock -> (v'.ownBlock = v.ownBlock \/ v'.ownBlock = some w.heap.size) -> K (a.put o.dst v') w') :
  if Region.wanted o (yielded ops a.tmps) = true then Oper.wp P o a w K Q else E := by
 have hw : Region.wanted o (yielded ops a.tmps) = true := by simp [Region.wanted, hgd]
 rw [if_pos hw]
 exact zE9 w s x t ho base e i z size bytes ht hi hz hsize hby hzs hpos v n xs hs hown ad m c news hx hl hr hn h1 h63 hbytes hbase h
theorem zE1 {w : World} {base q size : Nat} {e : TypeId} (hq : w.heap[q]? = some (.cells #[] e (0, 0))) (hb : base <= q) : w.ownsRow base e size (.slice (some ⟨q, 0, none⟩) 0 0) 0 [] :=
 ⟨by simp, .inr ⟨q, 0, #[], rfl, hb, hq, Nat.le_refl _, by unfold maxLen; omega, by simp, by simp⟩⟩
end Rw
namespace Im
open Go.RowKit Go.Maps
def ic (x : Itm) : List Value := [.int .i64 x.1, .int .i64 x.2]
theorem zBF (x : Itm) : (ic x).length = 2 := rfl
theorem zAO (X : List Itm) : (X.flatMap ic).length = X.length * 2 := by
 induction X with
 | nil => rfl
 | cons x X ih =>
  rw [List.flatMap_cons, List.length_append, ih, zBF, List.length_cons]
  omega
theorem zJL (X : List Itm) : ∀ u ∈ X.flatMap ic, u.oneCell' = true := fun u hu => by
 rw [List.mem_flatMap] at hu
 obtain ⟨x, _, h⟩ := hu
 simp only [ic, List.mem_cons, List.not_mem_nil, or_false] at h
 rcases h with rfl | rfl <;> rfl
theorem zD7 (X Y : List Itm) : (X ++ Y).flatMap ic = X.flatMap ic ++ Y.flatMap ic := List.flatMap_append
theorem zLL (X : List Itm) (k : Nat) : (X.drop k).flatMap ic = (X.flatMap ic).drop (k * 2) := by
 induction X generalizing k with
 | nil => simp
 | cons x X ih =>
  cases k with
  | zero => simp
  | succ k =>
   rw [List.drop_succ_cons, ih, List.flatMap_cons, show (k + 1) * 2 = (ic x).length + k * 2 by rw [zBF]; omega, List.drop_append]
   simp
theorem zLM (X : List Itm) (k : Nat) : (X.take k).flatMap ic = (X.flatMap ic).take (k * 2) := by
 induction X generalizing k with
 | nil => simp
 | cons x X ih =>
  cases k with
  | zero => simp
  | succ k =>
   rw [List.take_succ_cons, List.flatMap_cons, ih, List.flatMap_cons, show (k + 1) * 2 = (ic x).length + k * 2 by rw [zBF]; omega, List.take_append, List.take_of_length_le (Nat.le_add_right ..)]
   simp
def ItsA (a : Option Addr) (X : List Itm) (w : World) : Prop := Sep.Reads a (X.flatMap ic) w
theorem ItsA.nil (a : Option Addr) (w : World) : ItsA a [] w := Sep.Reads.nil a w
theorem ItsA.keep {a : Option Addr} {X : List Itm} {w w' : World} (h : ItsA a X w) (hb : ∀ b o, a = some ⟨b, o, none⟩ -> w'.heap[b]? = w.heap[b]?) : ItsA a X w' := Sep.Reads.keep h hb
theorem ItsA.below {a : Option Addr} {X : List Itm} {m : Nat} {w w' : World} (h : ItsA a X w) (hb : Below m w w') (hm : w.heap.size <= m) : ItsA a X w' := Sep.Reads.below h hb hm
theorem ItsA.went {a : Option Addr} {X : List Itm} {w w' : World} (h : ItsA a X w) (hb : Below w.heap.size w w') : ItsA a X w' := h.below hb (Nat.le_refl _)
theorem ItsA.at {a : Option Addr} {X : List Itm} {w : World} (h : ItsA a X w) (i : Nat) (hi : i < X.length) :
  ∃ b o, a = some ⟨b, o, none⟩ /\ w.cell? ⟨b, o + i * 2, none⟩ = some (.int .i64 X[i].1) /\ w.cell? ⟨b, o + i * 2 + 1, none⟩ = some (.int .i64 X[i].2) := by
 have hl := zAO X
 obtain ⟨b, o, e, h0⟩ := h (i * 2) (by omega)
 obtain ⟨b', o', e', h1⟩ := h (i * 2 + 1) (by omega)
 rw [e] at e'
 simp only [Option.some.injEq, Addr.mk.injEq, and_true] at e'
 obtain ⟨rfl, rfl⟩ := e'
 have g0 := Rw.zET ic zBF X i hi 0 (by omega)
 have g1 := Rw.zET ic zBF X i hi 1 (by omega)
 rw [List.getElem?_eq_getElem (by omega)] at g0 g1
 refine ⟨b, o, e, ?_, ?_⟩
 ·rw [h0]
  rw [← Option.some.injEq] at g0
  exact congrArg some (by simpa [ic] using g0)
 ·rw [show o + i * 2 + 1 = o + (i * 2 + 1) by omega, h1]
  exact congrArg some (by simpa [ic] using g1)
theorem ItsA.drop {b o : Nat} {X : List Itm} {w : World} (h : ItsA (some ⟨b, o, none⟩) X w) (k : Nat) : ItsA (some ⟨b, o + k * 2, none⟩) (X.drop k) w := fun i hi => by
 have hl := zAO X
 rw [zAO, List.length_drop] at hi
 obtain ⟨b', o', e, hc⟩ := h (k * 2 + i) (by omega)
 simp only [Option.some.injEq, Addr.mk.injEq, and_true] at e
 obtain ⟨rfl, rfl⟩ := e
 refine ⟨b, o + k * 2, rfl, ?_⟩
 rw [show o + k * 2 + i = o + (k * 2 + i) by omega, hc]
 congr 1
 simp only [zLL, List.getElem_drop]
theorem ItsA.take {a : Option Addr} {X : List Itm} {w : World} (h : ItsA a X w) (k : Nat) : ItsA a (X.take k) w := fun i hi => by
 have hl := zAO X
 have hi' := hi
 rw [zAO, List.length_take] at hi
 obtain ⟨b, o, e, hc⟩ := h i (by omega)
 refine ⟨b, o, e, ?_⟩
 rw [hc]
 congr 1
 simp only [zLM, List.getElem_take]
theorem ItsA.lie {a : Option Addr} {X : List Itm} {w : World} (h : ItsA a X w) : (∀ p, a = some p -> ∀ j u, (X.flatMap ic)[j]? = some u -> w.cell? (p.add j) = some u) /\ (a = none -> X.length = 0) := by
 constructor
 ·intro p hp j u hu
  obtain ⟨hj, rfl⟩ := List.getElem?_eq_some_iff.1 hu
  obtain ⟨b, o, e, hc⟩ := h j hj
  rw [hp] at e
  simp only [Option.some.injEq] at e
  subst e
  rw [WideShapes.add_plain]
  exact hc
 ·intro ha
  rcases Nat.eq_zero_or_pos X.length with h0 | h0
  ·exact h0
  ·obtain ⟨b, o, e, _⟩ := h.at 0 h0
   rw [ha] at e
   cases e
def ItsV (T : TypeId) (base : Nat) (X : List Itm) (v : Value) (w : World) : Prop := w.ownsRow base T 2 v X.length (X.flatMap ic)
theorem ItsV.nil (T : TypeId) (base : Nat) (w : World) : ItsV T base [] (.slice none 0 0) w := World.ownsRow_nil _ _ _ _
theorem ItsV.keep {T : TypeId} {base : Nat} {X : List Itm} {v : Value} {w w' : World} (h : ItsV T base X v w) (hb : ∀ g, v.ownBlock = some g -> w'.heap[g]? = w.heap[g]?) : ItsV T base X v w' := Sep.zAH h hb
theorem ItsV.went {T : TypeId} {base : Nat} {X : List Itm} {v : Value} {w w' : World} (h : ItsV T base X v w) (hb : Below w.heap.size w w') : ItsV T base X v w' := h.keep fun g hg => hb.block g (World.ownsRow.lt h g hg).2
theorem ItsV.mono {T : TypeId} {b b' : Nat} {X : List Itm} {v : Value} {w : World} (h : ItsV T b X v w) (hb : b' <= b) : ItsV T b' X v w := Rw.zL3 h hb
theorem ItsV.shape {T : TypeId} {base : Nat} {X : List Itm} {v : Value} {w : World} (h : ItsV T base X v w) : ∃ a c, v = .slice a X.length c /\ X.length <= c := by
 rcases h.2 with ⟨rfl, h0⟩ | ⟨g, cap, cur, rfl, _, _, h5, _⟩
 ·exact ⟨none, 0, by rw [h0], by omega⟩
 ·exact ⟨_, cap, rfl, h5⟩
theorem ItsV.reads {T : TypeId} {base : Nat} {X : List Itm} {a : Option Addr} {c : Nat} {w : World} (h : ItsV T base X (.slice a X.length c) w) : ItsA a X w := fun i hi => by
 have hl := zAO X
 rcases h.2 with ⟨_, h0⟩ | ⟨g, cap, cur, he, _⟩
 ·omega
 ·simp only [Value.slice.injEq] at he
  obtain ⟨rfl, _, _⟩ := he
  refine ⟨g, 0, rfl, ?_⟩
  have := World.ownsRow.cells h (g := g) rfl i _ (List.getElem?_eq_getElem hi)
  rw [WideShapes.add_plain] at this
  simpa using this
theorem zBy (T : TypeId) (base q : Nat) (x : Itm) (w : World) (hq : q = w.heap.size) (hb : base <= q) : (w.alloc (.cells #[.int .i64 x.1, .int .i64 x.2] T)).ownsRow base T 2 (.slice (some ⟨q, 0, none⟩) 1 1) 1 (ic x) := by
 subst hq
 exact World.ownsRow_lit w #[.int .i64 x.1, .int .i64 x.2] 1 hb (by decide) (by simp)
theorem ItsV.of_append {T : TypeId} {base n m : Nat} {X Y : List Itm} {v : Value} {w : World} (h : w.ownsRow base T 2 v (n + m) (X.flatMap ic ++ Y.flatMap ic)) (hn : n = X.length) (hm : m = Y.length) : ItsV T base (X ++ Y) v w := by
 subst hn hm
 unfold ItsV
 rw [List.length_append, zD7]
 exact h
