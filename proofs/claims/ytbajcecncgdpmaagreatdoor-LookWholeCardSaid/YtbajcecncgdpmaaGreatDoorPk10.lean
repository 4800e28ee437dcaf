/- A part of the proof. -/
import Derived.Test.YtbajcecncgdpmaaGreatDoorPk04
import Derived.ChangeKeys
set_option linter.unusedVariables false
namespace Go.Proofs.YtbajcecncgdpmaaGreatDoor
namespace Im
open Gr (Gram zAN zAB ofN zAp)
abbrev Itm := Int × Int
def ltP (a b : Itm) : Prop := a.1 < b.1 \/ (a.1 = b.1 /\ a.2 < b.2)
instance (a b : Itm) : Decidable (ltP a b) := by unfold ltP; infer_instance
theorem ltP.trans {a b c : Itm} (h : ltP a b) (k : ltP b c) : ltP a c := by
 unfold ltP at *
 omega
theorem ltP.ne {a b : Itm} (h : ltP a b) : a ≠ b := fun e => by
 subst e
 unfold ltP at h
 omega
theorem ltP.not {a b : Itm} (h : ltP a b) : ¬ ltP b a := by
 unfold ltP at *
 omega
theorem zLS {a b : Itm} (h : ¬ ltP a b) (hn : a ≠ b) : ltP b a := by
 have hn' : ¬ (a.1 = b.1 /\ a.2 = b.2) := fun ⟨e1, e2⟩ => hn (Prod.ext e1 e2)
 unfold ltP at *
 omega
def Srt (l : List Itm) : Prop := l.Pairwise ltP
theorem zMI : Srt [] := List.Pairwise.nil
theorem zEJ (x : Itm) : Srt [x] := List.pairwise_singleton _ _
theorem zHn : ∀ {a b : List Itm}, Srt a -> Srt b -> (∀ x, x ∈ a ↔ x ∈ b) -> a = b
 | [], [], _, _, _ => rfl
 | [], y :: b, _, _, h => by
  have := (h y).2 (List.mem_cons_self ..)
  cases this
 | x :: a, [], _, _, h => by
  have := (h x).1 (List.mem_cons_self ..)
  cases this
 | x :: a, y :: b, ha, hb, h => by
  have ha' := List.pairwise_cons.1 ha
  have hb' := List.pairwise_cons.1 hb
  have e : x = y := by
   rcases List.mem_cons.1 ((h x).1 (List.mem_cons_self ..)) with e | e
   ·exact e
   ·rcases List.mem_cons.1 ((h y).2 (List.mem_cons_self ..)) with e' | e'
    ·exact e'.symm
    ·exact absurd (ha'.1 _ e') (hb'.1 _ e).not
  subst e
  congr 1
  refine zHn ha'.2 hb'.2 fun z => ?_
  constructor
  ·intro hz
   rcases List.mem_cons.1 ((h z).1 (List.mem_cons_of_mem _ hz)) with e | e
   ·subst e
    exact absurd rfl (ha'.1 _ hz).ne
   ·exact e
  ·intro hz
   rcases List.mem_cons.1 ((h z).2 (List.mem_cons_of_mem _ hz)) with e | e
   ·subst e
    exact absurd rfl (hb'.1 _ hz).ne
   ·exact e
def Is (l : List Itm) (P : Itm -> Prop) : Prop := Srt l /\ ∀ x, x ∈ l ↔ P x
theorem Is.uniq {a b : List Itm} {P : Itm -> Prop} (h : Is a P) (k : Is b P) : a = b := zHn h.1 k.1 fun x => (h.2 x).trans (k.2 x).symm
theorem Is.iff {a : List Itm} {P Q : Itm -> Prop} (h : Is a P) (e : ∀ x, P x ↔ Q x) : Is a Q := ⟨h.1, fun x => (h.2 x).trans (e x)⟩
theorem Is.nil {P : Itm -> Prop} (h : ∀ x, ¬ P x) : Is [] P := ⟨zMI, fun x => ⟨fun hx => (List.not_mem_nil hx).elim, fun hx => absurd hx (h x)⟩⟩
def putI : List Itm -> Itm -> List Itm
 | [], x => [x]
 | y :: l, x => if ltP y x then y :: putI l x else if y = x then y :: l else x :: y :: l
theorem zDJ {x z : Itm} : ∀ {l : List Itm}, z ∈ putI l x ↔ z ∈ l \/ z = x
 | [] => by simp [putI]
 | y :: l => by
  unfold putI
  split
  ·rw [List.mem_cons, zDJ, List.mem_cons, or_assoc]
  ·split
   ·rename_i e
    subst e
    simp only [List.mem_cons]
    constructor
    ·exact fun h => .inl h
    ·rintro (h | h)
     ·exact h
     ·exact .inl h
   ·simp only [List.mem_cons]
    constructor
    ·rintro (h | h | h)
     ·exact .inr h
     ·exact .inl (.inl h)
     ·exact .inl (.inr h)
    ·rintro ((h | h) | h)
     ·exact .inr (.inl h)
     ·exact .inr (.inr h)
     ·exact .inl h
theorem zFr {x : Itm} : ∀ {l : List Itm}, Srt l -> Srt (putI l x)
 | [], _ => zEJ x
 | y :: l, h => by
  have h' := List.pairwise_cons.1 h
  unfold putI
  split
  ·rename_i hl
   refine List.pairwise_cons.2 ⟨fun z hz => ?_, zFr h'.2⟩
   rcases zDJ.1 hz with e | e
   ·exact h'.1 _ e
   ·rw [e]
    exact hl
  ·split
   ·exact h
   ·rename_i hl hn
    have hx := zLS hl hn
    refine List.pairwise_cons.2 ⟨fun z hz => ?_, h⟩
    rcases List.mem_cons.1 hz with e | e
    ·rw [e]
     exact hx
    ·exact hx.trans (h'.1 _ e)
theorem zE7 {x : Itm} : ∀ {l : List Itm}, Srt l -> (putI l x).length = if x ∈ l then l.length else l.length + 1
 | [], _ => by simp [putI]
 | y :: l, h => by
  have h' := List.pairwise_cons.1 h
  unfold putI
  split
  ·rename_i hl
   have hn : x ≠ y := fun e => hl.ne e.symm
   rw [List.length_cons, zE7 h'.2]
   by_cases k : x ∈ l
   ·rw [if_pos k, if_pos (List.mem_cons_of_mem _ k), List.length_cons]
   ·rw [if_neg k, if_neg (by rw [List.mem_cons]; rintro (e | e); exact hn e; exact k e), List.length_cons]
  ·split
   ·rename_i e
    subst e
    rw [if_pos (List.mem_cons_self ..)]
   ·rename_i hl hn
    have hx := zLS hl hn
    rw [if_neg]
    ·rfl
    ·intro k
     rcases List.mem_cons.1 k with e | e
     ·exact hn e.symm
     ·exact (h'.1 _ e).not hx
theorem zLy {x : Itm} : ∀ {l : List Itm} {k : Nat}, k <= l.length -> (∀ j (h : j < l.length), j < k -> ltP l[j] x) -> (∀ h : k < l.length, ¬ ltP l[k] x) ->
  putI l x = if l[k]? = some x then l else l.take k ++ x :: l.drop k
 | [], k, hk, _, _ => by
  have : k = 0 := by simpa using hk
  subst this
  simp [putI]
 | y :: l, 0, _, _, h2 => by
  have hl : ¬ ltP y x := h2 (by simp)
  unfold putI
  rw [if_neg hl]
  by_cases e : y = x
  ·subst e
   simp
  ·simp [e]
 | y :: l, k + 1, hk, h1, h2 => by
  have hl : ltP y x := h1 0 (by simp) (by omega)
  unfold putI
  rw [if_pos hl, zLy (l := l) (k := k) (by simpa using hk) (fun j h hj => h1 (j + 1) (by simpa using h) (by omega)) (fun h => h2 (by simpa using h))]
  simp only [List.getElem?_cons_succ, List.take_succ_cons, List.drop_succ_cons]
  split <;> rfl
theorem Is.put {l : List Itm} {P : Itm -> Prop} (h : Is l P) (x : Itm) : Is (putI l x) (fun z => P z \/ z = x) := ⟨zFr h.1, fun z => by rw [zDJ, h.2]⟩
def rlen (G : Gram) (r : Int) : Nat := (zAB G r).2.length
def zAG (G : Gram) (x : Itm) : Bool := zAN G x.1 && decide (0 <= x.2 /\ x.2 <= (rlen G x.1 : Int))
def behB (G : Gram) (x : Itm) : Bool := zAG G x && decide (x.2 < (rlen G x.1 : Int))
def behV (G : Gram) (x : Itm) : Int := if behB G x then (zAB G x.1).2.getD x.2.toNat 0 else 0
theorem zAK {G : Gram} {x : Itm} : zAG G x = true ↔ (0 <= x.1 /\ x.1 <= (G.rules.length : Int)) /\ (0 <= x.2 /\ x.2 <= (rlen G x.1 : Int)) := by
 unfold zAG zAN
 rw [Bool.and_eq_true, decide_eq_true_iff, decide_eq_true_iff]
theorem zAa {G : Gram} {x : Itm} : behB G x = true ↔ zAG G x = true /\ x.2 < (rlen G x.1 : Int) := by
 unfold behB
 rw [Bool.and_eq_true, decide_eq_true_iff]
theorem zJX {G : Gram} {x : Itm} (h : behB G x = true) : zAG G (x.1, x.2 + 1) = true := by
 obtain ⟨h1, h2⟩ := zAa.1 h
 have h3 := zAK.1 h1
 rw [zAK]
 exact ⟨h3.1, by dsimp only; omega, by dsimp only; omega⟩
theorem zAv {G : Gram} {r : Nat} (h : r <= G.rules.length) : zAG G ((r : Int), 0) = true := by
 rw [zAK]
 exact ⟨⟨by dsimp only; omega, by dsimp only; omega⟩, by dsimp only; omega, by dsimp only; omega⟩
inductive Clo (G : Gram) (L : List Itm) : Itm -> Prop
 | of {x : Itm} : x ∈ L -> zAG G x = true -> Clo G L x
 | next {y : Itm} {r : Nat} : Clo G L y -> behB G y = true -> r ∈ ofN G (behV G y) -> Clo G L ((r : Int), 0)
theorem zAS {G : Gram} {L : List Itm} {x : Itm} (h : Clo G L x) : zAG G x = true := by
 cases h with
 | of _ h => exact h
 | next _ _ h => exact zAv (Nat.le_of_lt (zAp.1 h).1)
theorem zM1 {G : Gram} {L M : List Itm} (k : ∀ x ∈ L, x ∈ M) {x : Itm} (h : Clo G L x) : Clo G M x := by
 induction h with
 | of h1 h2 => exact .of (k _ h1) h2
 | next _ h2 h3 ih => exact .next ih h2 h3
def zJ4 (G : Gram) (L : List Itm) (s : Int) (x : Itm) : Prop := ∃ y ∈ L, behB G y = true /\ behV G y = s /\ x = (y.1, y.2 + 1)
theorem zCR {G : Gram} {L : List Itm} {s : Int} {x : Itm} (h : zJ4 G L s x) : zAG G x = true /\ 0 < x.2 := by
 obtain ⟨y, _, h1, _, h2⟩ := h
 subst h2
 have := zAK.1 (zAa.1 h1).1
 exact ⟨zJX h1, by dsimp only; omega⟩
structure Mid (G : Gram) (L out : List Itm) : Prop where
 srt : Srt out
 all : ∀ x ∈ L, zAG G x = true -> x ∈ out
 sub : ∀ x ∈ out, Clo G L x
theorem Mid.start {G : Gram} {L out : List Itm} (h : Is out (fun x => x ∈ L /\ zAG G x = true)) : Mid G L out :=
 ⟨h.1, fun x h1 h2 => (h.2 x).2 ⟨h1, h2⟩, fun x hx => .of ((h.2 x).1 hx).1 ((h.2 x).1 hx).2⟩
theorem Mid.put {G : Gram} {L out : List Itm} (m : Mid G L out) {y : Itm} {r : Nat} (hy : Clo G L y) (hb : behB G y = true) (hr : r ∈ ofN G (behV G y)) : Mid G L (putI out ((r : Int), 0)) :=
 ⟨zFr m.srt, fun x h1 h2 => zDJ.2 (.inl (m.all x h1 h2)), fun x hx => by
  rcases zDJ.1 hx with e | e
  ·exact m.sub x e
  ·rw [e]
   exact .next hy hb hr⟩
def Shut (G : Gram) (out : List Itm) : Prop := ∀ y ∈ out, behB G y = true -> ∀ r ∈ ofN G (behV G y), ((r : Int), (0 : Int)) ∈ out
theorem Mid.done {G : Gram} {L out : List Itm} (m : Mid G L out) (h : Shut G out) : Is out (Clo G L) := by
 refine ⟨m.srt, fun x => ⟨m.sub x, fun k => ?_⟩⟩
 induction k with
 | of h1 h2 => exact m.all _ h1 h2
 | next _ h2 h3 ih => exact h _ ih h2 _ h3
theorem Mid.right {G : Gram} {L out : List Itm} (m : Mid G L out) {x : Itm} (h : x ∈ out) : zAG G x = true := zAS (m.sub x h)
def allI (G : Gram) : List Itm := (List.range (G.rules.length + 1)).flatMap fun (r : Nat) => (List.range (rlen G (r : Int) + 1)).map fun (d : Nat) => ((r : Int), (d : Int))
theorem zBu {G : Gram} {x : Itm} (h : zAG G x = true) : x ∈ allI G := by
 obtain ⟨⟨h1, h2⟩, h3, h4⟩ := zAK.1 h
 obtain ⟨r, d⟩ := x
 dsimp only at h1 h2 h3 h4
 obtain ⟨r, rfl⟩ := Int.eq_ofNat_of_zero_le h1
 obtain ⟨d, rfl⟩ := Int.eq_ofNat_of_zero_le h3
 unfold allI
 rw [List.mem_flatMap]
 exact ⟨r, List.mem_range.2 (by omega), List.mem_map.2 ⟨d, List.mem_range.2 (by omega), rfl⟩⟩
theorem zC6 {l : List Itm} (h : Srt l) : l.Nodup := h.imp fun k => k.ne
theorem zBh : ∀ {l M : List Itm}, l.Nodup -> (∀ x ∈ l, x ∈ M) -> l.length <= M.length
 | [], _, _, _ => Nat.zero_le _
 | x :: l, M, h, k => by
  have h' := List.nodup_cons.1 h
  have hx := k x (List.mem_cons_self ..)
  have := zBh (M := M.erase x) h'.2 fun z hz => (List.mem_erase_of_ne (fun e => h'.1 (by rw [← e]; exact hz))).2 (k z (List.mem_cons_of_mem _ hz))
  rw [List.length_erase_of_mem hx] at this
  have := List.length_pos_of_mem hx
  rw [List.length_cons]
  omega
theorem zCl {G : Gram} {l : List Itm} (h : Srt l) (k : ∀ x ∈ l, zAG G x = true) : l.length <= (allI G).length :=
 zBh (zC6 h) fun x hx => zBu (k x hx)
theorem zOt {L : List Itm} {Q : Itm -> Prop} {F : Itm -> Itm} {out : List Itm} {k : Nat} (h : Is out (fun x => ∃ j, ∃ h : j < L.length, j < k /\ x = F L[j] /\ Q L[j])) (hk : k < L.length) (hq : Q L[k]) :
  Is (putI out (F L[k])) (fun x => ∃ j, ∃ h : j < L.length, j < k + 1 /\ x = F L[j] /\ Q L[j]) := by
 refine (h.put (F L[k])).iff fun x => ?_
 constructor
 ·rintro (⟨j, h1, h2, h3⟩ | e)
  ·exact ⟨j, h1, by omega, h3⟩
  ·exact ⟨k, hk, by omega, e, hq⟩
 ·rintro ⟨j, h1, h2, h3, h4⟩
  by_cases e : j = k
  ·subst e
   exact .inr h3
  ·exact .inl ⟨j, h1, by omega, h3, h4⟩
theorem zMZ {L : List Itm} {Q : Itm -> Prop} {F : Itm -> Itm} {out : List Itm} {k : Nat} (h : Is out (fun x => ∃ j, ∃ h : j < L.length, j < k /\ x = F L[j] /\ Q L[j])) (hk : k < L.length) (hq : ¬ Q L[k]) :
  Is out (fun x => ∃ j, ∃ h : j < L.length, j < k + 1 /\ x = F L[j] /\ Q L[j]) := by
 refine h.iff fun x => ?_
 constructor
 ·rintro ⟨j, h1, h2, h3⟩
  exact ⟨j, h1, by omega, h3⟩
 ·rintro ⟨j, h1, h2, h3, h4⟩
  by_cases e : j = k
  ·subst e
   exact absurd h4 hq
  ·exact ⟨j, h1, by omega, h3, h4⟩
theorem zFu {L : List Itm} {Q : Itm -> Prop} {F : Itm -> Itm} (x : Itm) : (∃ j, ∃ h : j < L.length, j < L.length /\ x = F L[j] /\ Q L[j]) ↔ ∃ y ∈ L, x = F y /\ Q y := by
 constructor
 ·rintro ⟨j, h1, _, h3, h4⟩
  exact ⟨_, List.getElem_mem h1, h3, h4⟩
 ·rintro ⟨y, hy, h3, h4⟩
  obtain ⟨j, h1, rfl⟩ := List.getElem_of_mem hy
  exact ⟨j, h1, h1, h3, h4⟩
def adds (out : List Itm) (rs : List Nat) : List Itm := rs.foldl (fun l (r : Nat) => putI l ((r : Int), 0)) out
theorem zJ8 (out : List Itm) (rs : List Nat) (r : Nat) : adds out (rs ++ [r]) = putI (adds out rs) ((r : Int), 0) := by simp [adds]
theorem zBt {x : Itm} : ∀ {rs : List Nat} {out : List Itm}, x ∈ adds out rs ↔ x ∈ out \/ ∃ r ∈ rs, x = ((r : Int), 0)
 | [], out => by simp [adds]
 | r :: rs, out => by
  show x ∈ adds (putI out ((r : Int), 0)) rs ↔ _
  rw [zBt, zDJ]
  simp only [List.mem_cons]
  constructor
  ·rintro ((h | h) | ⟨q, h1, h2⟩)
   ·exact .inl h
   ·exact .inr ⟨r, .inl rfl, h⟩
   ·exact .inr ⟨q, .inr h1, h2⟩
  ·rintro (h | ⟨q, rfl | h1, h2⟩)
   ·exact .inl (.inl h)
   ·exact .inl (.inr h2)
   ·exact .inr ⟨q, h1, h2⟩
theorem zFq : ∀ {rs : List Nat} {out : List Itm}, Srt out -> Srt (adds out rs)
 | [], _, h => h
 | r :: rs, out, h => by
  show Srt (adds (putI out ((r : Int), 0)) rs)
  exact zFq (zFr h)
theorem zPP {rs : List Nat} {out : List Itm} (h : Srt out) : out.length <= (adds out rs).length := zBh (zC6 h) fun x hx => zBt.2 (.inl hx)
theorem zJ7 {rs : List Nat} {out : List Itm} (h : Srt out) (hl : (adds out rs).length = out.length) : (∀ r ∈ rs, ((r : Int), (0 : Int)) ∈ out) /\ adds out rs = out := by
 have key : ∀ r ∈ rs, ((r : Int), (0 : Int)) ∈ out := fun r hr => by
  rcases Classical.em (((r : Int), (0 : Int)) ∈ out) with k | k
  ·exact k
  ·exfalso
   have hn : (((r : Int), (0 : Int)) :: out).Nodup := List.nodup_cons.2 ⟨k, zC6 h⟩
   have := zBh (M := adds out rs) hn fun x hx => by
    rcases List.mem_cons.1 hx with e | e
    ·exact zBt.2 (.inr ⟨r, hr, e⟩)
    ·exact zBt.2 (.inl e)
   rw [List.length_cons] at this
   omega
 refine ⟨key, zHn (zFq h) h fun x => ?_⟩
 rw [zBt]
 constructor
 ·rintro (k | ⟨r, hr, rfl⟩)
  ·exact k
  ·exact key r hr
 ·exact .inl
theorem Mid.adds {G : Gram} {L out : List Itm} (m : Mid G L out) {y : Itm} (hy : Clo G L y) (hb : behB G y = true) : Mid G L (adds out (ofN G (behV G y))) :=
 ⟨zFq m.srt, fun x h1 h2 => zBt.2 (.inl (m.all x h1 h2)), fun x hx => by
  rcases zBt.1 hx with e | ⟨r, hr, rfl⟩
  ·exact m.sub x e
  ·exact .next hy hb hr⟩
theorem Mid.len {G : Gram} {L out : List Itm} (m : Mid G L out) : out.length <= (allI G).length := zCl m.srt fun x hx => m.right hx
theorem zPQ {G : Gram} {B : Nat} (h : ∀ r : Nat, r <= G.rules.length -> rlen G (r : Int) <= B) : (allI G).length <= (G.rules.length + 1) * (B + 1) := by
 unfold allI
 have : ∀ n, n <= G.rules.length + 1 -> ((List.range n).flatMap fun (r : Nat) => (List.range (rlen G (r : Int) + 1)).map fun (d : Nat) => ((r : Int), (d : Int))).length <= n * (B + 1) := fun n => by
  induction n with
  | zero => simp
  | succ n ih =>
   intro hn
   rw [List.range_succ, List.flatMap_append, List.length_append]
   have h1 := ih (by omega)
   have h2 := h n (by omega)
   simp only [List.flatMap_cons, List.flatMap_nil, List.append_nil, List.length_map, List.length_range]
   rw [Nat.succ_mul]
   omega
 exact this _ (Nat.le_refl _)
end Im
namespace Rw
open Go.RowKit Go.Maps
theorem zEc {P : Program} (w : World) (t ty : TypeId) (base : Nat) (e : TypeId) (i : TypeInfo) (z : Value) (size bytes : Nat) (ht : P.underlying t = some (.slice e)) (hi : P.info? e = some i) (hz : i.zero = some z)
  (hsize : i.size = size) (hby : i.bytes = bytes) (hzs : z.cells.size = size) (hpos : 0 < size) (v : Value) (n : Nat) (xs : List Value) (hown : w.ownsRow base e size v n xs)
  (a : Option Addr) (m c : Nat) (news : List Value) (hl : news.length = m * size) (hr : ∀ ad, a = some ad -> ∀ j u, news[j]? = some u -> w.cell? (ad.add j) = some u) (hn : a = none -> m = 0) (h1 : ∀ u ∈ news, u.oneCell' = true)
  (h63 : n + m <= maxLen) (hbytes : (n + m) * bytes <= 140737488355328) (hbase : base <= w.heap.size) :
  ∃ v' w', (Builtin.append_ #[t, t] ty #[v, .slice a m c]).run P w = .ok v' w' /\ w'.ownsRow base e size v' (n + m) (xs ++ news) /\ w.grownBy w' v.ownBlock /\ (v'.ownBlock = v.ownBlock \/ v'.ownBlock = some w.heap.size) := by
 cases a with
 | some ad =>
  obtain ⟨v', w', h2, h3, h4, _, h5⟩ := run_append_own_at (P := P) w base t ty e i z size bytes ht hi hz hsize hby hzs hpos v n xs hown ad m c news hl (hr ad rfl) h1 h63 hbytes hbase
  exact ⟨v', w', h2, h3, h4, h5⟩
 | none =>
  obtain rfl := hn rfl
  have h0 : news = [] := List.eq_nil_of_length_eq_zero (by simpa using hl)
  subst h0
  refine ⟨v, w, ?_, by simpa using hown, ⟨rfl, rfl, rfl, Nat.le_refl _, fun _ _ _ => rfl⟩, .inl rfl⟩
  rcases hown.2 with ⟨rfl, rfl⟩ | ⟨g, cap, cur, rfl, hbg, hg, hnc, hcm, hcs, htake⟩
  ·simp [Builtin.append_, run_underlying ht, sizeOf, typeInfo, hi, Builtin.lenOf, Builtin.firstCells]
  ·simp [Builtin.append_, run_underlying ht, sizeOf, typeInfo, hi, Builtin.lenOf, Builtin.firstCells, loadCells, storeCells, hnc]
theorem zFv {P : Program} (w : World) {o : Oper} {a : Act} {K : Act -> World -> Prop} {Q : Exit -> Act -> World -> Prop} (s x : Operand) (t : TypeId)
  (ho : o.op = .call { callee := .builtin .append, args := #[s, x], argTypes := #[t, t] })
  (base : Nat) (e : TypeId) (i : TypeInfo) (z : Value) (size bytes : Nat) (ht : P.underlying t = some (.slice e)) (hi : P.info? e = some i) (hz : i.zero = some z)
  (hsize : i.size = size) (hby : i.bytes = bytes) (hzs : z.cells.size = size) (hpos : 0 < size) (v : Value) (n : Nat) (xs : List Value) (hs : a.eval s = v) (hown : w.ownsRow base e size v n xs)
  (ad : Option Addr) (m c : Nat) (news : List Value) (hx : a.eval x = .slice ad m c) (hl : news.length = m * size) (hr : ∀ p, ad = some p -> ∀ j u, news[j]? = some u -> w.cell? (p.add j) = some u) (hn : ad = none -> m = 0) (h1 : ∀ u ∈ news, u.oneCell' = true)
  (h63 : n + m <= maxLen) (hbytes : (n + m) * bytes <= 140737488355328) (hbase : base <= w.heap.size)
  (h : ∀ v' w', w'.ownsRow base e size v' (n + m) (xs ++ news) -> w.grownBy w' v.ownBlock -> (v'.ownBlock = v.ownBlock \/ v'.ownBlock = some w.heap.size) -> K (a.put o.dst v') w') : o.wp P a w K Q := by
 obtain ⟨v', w', hr, h2, h3, h4⟩ := zEc (P := P) w t o.type base e i z size bytes ht hi hz hsize hby hzs hpos v n xs hown ad m c news hl hr hn h1 h63 hbytes hbase
 unfold Oper.wp execOp
 simp only [ho, resolve, invoke, builtin, Sem.run_bind, Sem.run_pure, Result.andThen_ok, List.map_toArray, List.map_cons, List.map_nil, hs, hx, hr]
 exact h v' w' h2 h3 h4
theorem zCG {P : Program} (w : World) {ops : Array Oper} {o : Oper} {a : Act} {K : Act -> World -> Prop} {Q : Exit -> Act -> World -> Prop} {E : Prop} (hgd : o.guard = none) (s x : Operand) (t : TypeId)
  (ho : o.op = .call { callee := .builtin .append, args := #[s, x], argTypes := #[t, t] })
  (base : Nat) (e : TypeId) (i : TypeInfo) (z : Value) (size bytes : Nat) (ht : P.underlying t = some (.slice e)) (hi : P.info? e = some i) (hz : i.zero = some z)
  (hsize : i.size = size) (hby : i.bytes = bytes) (hzs : z.cells.size = size) (hpos : 0 < size) (v : Value) (n : Nat) (xs : List Value) (hs : a.eval s = v) (hown : w.ownsRow base e size v n xs)
  (ad : Option Addr) (m c : Nat) (news : List Value) (hx : a.eval x = .slice ad m c) (hl : news.length = m * size) (hr : ∀ p, ad = some p -> ∀ j u, news[j]? = some u -> w.cell? (p.add j) = some u) (hn : ad = none -> m = 0) (h1 : ∀ u ∈ news, u.oneCell' = true)
  (h63 : n + m <= maxLen) (hbytes : (n + m) * bytes <= 140737488355328) (hbase : base <= w.heap.size)
  (h : ∀ v' w', w'.ownsRow base e size v' (n + m) (xs ++ news) -> w.grownBy w' v.ownBlock -> (v'.ownBlock = v.ownBlock \/ v'.ownBlock = some w.heap.size) -> K (a.put o.dst v') w') :
  if Region.wanted o (yielded ops a.tmps) = true then Oper.wp P o a w K Q else E := by
 have hw : Region.wanted o (yielded ops a.tmps) = true := by simp [Region.wanted, hgd]
 rw [if_pos hw]
 exact zFv w s x t ho base e i z size bytes ht hi hz hsize hby hzs hpos v n xs hs hown ad m c news hx hl hr hn h1 h63 hbytes hbase h
theorem zOU {w : World} {base q size : Nat} {e : TypeId} (hq : w.heap[q]? = some (.cells #[] e (0, 0))) (hb : base <= q) : w.ownsRow base e size (.slice (some ⟨q, 0, none⟩) 0 0) 0 [] :=
 ⟨by simp, .inr ⟨q, 0, #[], rfl, hb, hq, Nat.le_refl _, by unfold maxLen; omega, by simp, by simp⟩⟩
end Rw
namespace Im
open Go.RowKit Go.Maps
def ic (x : Itm) : List Value := [.int .i64 x.1, .int .i64 x.2]
theorem zBQ (x : Itm) : (ic x).length = 2 := rfl
theorem zAQ (X : List Itm) : (X.flatMap ic).length = X.length * 2 := by
 induction X with
 | nil => rfl
 | cons x X ih =>
  rw [List.flatMap_cons, List.length_append, ih, zBQ, List.length_cons]
  omega
theorem zHM (X : List Itm) : ∀ u ∈ X.flatMap ic, u.oneCell' = true := fun u hu => by
 rw [List.mem_flatMap] at hu
 obtain ⟨x, _, h⟩ := hu
 simp only [ic, List.mem_cons, List.not_mem_nil, or_false] at h
 rcases h with rfl | rfl <;> rfl
theorem zE0 (X Y : List Itm) : (X ++ Y).flatMap ic = X.flatMap ic ++ Y.flatMap ic := List.flatMap_append
theorem zNW (X : List Itm) (k : Nat) : (X.drop k).flatMap ic = (X.flatMap ic).drop (k * 2) := by
 induction X generalizing k with
 | nil => simp
 | cons x X ih =>
  cases k with
  | zero => simp
  | succ k =>
   rw [List.drop_succ_cons, ih, List.flatMap_cons, show (k + 1) * 2 = (ic x).length + k * 2 by rw [zBQ]; omega, List.drop_append]
   simp
theorem zNX (X : List Itm) (k : Nat) : (X.take k).flatMap ic = (X.flatMap ic).take (k * 2) := by
 induction X generalizing k with
 | nil => simp
 | cons x X ih =>
  cases k with
  | zero => simp
  | succ k =>
   rw [List.take_succ_cons, List.flatMap_cons, ih, List.flatMap_cons, show (k + 1) * 2 = (ic x).length + k * 2 by rw [zBQ]; omega, List.take_append, List.take_of_length_le (Nat.le_add_right ..)]
   simp
def ItsA (a : Option Addr) (X : List Itm) (w : World) : Prop := Sep.Reads a (X.flatMap ic) w
theorem ItsA.nil (a : Option Addr) (w : World) : ItsA a [] w := Sep.Reads.nil a w
theorem ItsA.keep {a : Option Addr} {X : List Itm} {w w' : World} (h : ItsA a X w) (hb : ∀ b o, a = some ⟨b, o, none⟩ -> w'.heap[b]? = w.heap[b]?) : ItsA a X w' := Sep.Reads.keep h hb
theorem ItsA.below {a : Option Addr} {X : List Itm} {m : Nat} {w w' : World} (h : ItsA a X w) (hb : Below m w w') (hm : w.heap.size <= m) : ItsA a X w' := Sep.Reads.below h hb hm
theorem ItsA.went {a : Option Addr} {X : List Itm} {w w' : World} (h : ItsA a X w) (hb : Below w.heap.size w w') : ItsA a X w' := h.below hb (Nat.le_refl _)
theorem ItsA.at {a : Option Addr} {X : List Itm} {w : World} (h : ItsA a X w) (i : Nat) (hi : i < X.length) :
  ∃ b o, a = some ⟨b, o, none⟩ /\ w.cell? ⟨b, o + i * 2, none⟩ = some (.int .i64 X[i].1) /\ w.cell? ⟨b, o + i * 2 + 1, none⟩ = some (.int .i64 X[i].2) := by
 have hl := zAQ X
 obtain ⟨b, o, e, h0⟩ := h (i * 2) (by omega)
 obtain ⟨b', o', e', h1⟩ := h (i * 2 + 1) (by omega)
 rw [e] at e'
 simp only [Option.some.injEq, Addr.mk.injEq, and_true] at e'
 obtain ⟨rfl, rfl⟩ := e'
 have g0 := Rw.zB3 ic zBQ X i hi 0 (by omega)
 have g1 := Rw.zB3 ic zBQ X i hi 1 (by omega)
 rw [List.getElem?_eq_getElem (by omega)] at g0 g1
 refine ⟨b, o, e, ?_, ?_⟩
 ·rw [h0]
  rw [← Option.some.injEq] at g0
  exact congrArg some (by simpa [ic] using g0)
 ·rw [show o + i * 2 + 1 = o + (i * 2 + 1) by omega, h1]
  exact congrArg some (by simpa [ic] using g1)
theorem ItsA.drop {b o : Nat} {X : List Itm} {w : World} (h : ItsA (some ⟨b, o, none⟩) X w) (k : Nat) : ItsA (some ⟨b, o + k * 2, none⟩) (X.drop k) w := fun i hi => by
 have hl := zAQ X
 rw [zAQ, List.length_drop] at hi
 obtain ⟨b', o', e, hc⟩ := h (k * 2 + i) (by omega)
 simp only [Option.some.injEq, Addr.mk.injEq, and_true] at e
 obtain ⟨rfl, rfl⟩ := e
 refine ⟨b, o + k * 2, rfl, ?_⟩
 rw [show o + k * 2 + i = o + (k * 2 + i) by omega, hc]
 congr 1
 simp only [zNW, List.getElem_drop]
theorem ItsA.take {a : Option Addr} {X : List Itm} {w : World} (h : ItsA a X w) (k : Nat) : ItsA a (X.take k) w := fun i hi => by
 have hl := zAQ X
 have hi' := hi
 rw [zAQ, List.length_take] at hi
 obtain ⟨b, o, e, hc⟩ := h i (by omega)
 refine ⟨b, o, e, ?_⟩
 rw [hc]
 congr 1
 simp only [zNX, List.getElem_take]
theorem ItsA.lie {a : Option Addr} {X : List Itm} {w : World} (h : ItsA a X w) : (∀ p, a = some p -> ∀ j u, (X.flatMap ic)[j]? = some u -> w.cell? (p.add j) = some u) /\ (a = none -> X.length = 0) := by
 constructor
 ·intro p hp j u hu
  obtain ⟨hj, rfl⟩ := List.getElem?_eq_some_iff.1 hu
  obtain ⟨b, o, e, hc⟩ := h j hj
  rw [hp] at e
  simp only [Option.some.injEq] at e
  subst e
  rw [WideShapes.add_plain]
  exact hc
 ·intro ha
  rcases Nat.eq_zero_or_pos X.length with h0 | h0
  ·exact h0
  ·obtain ⟨b, o, e, _⟩ := h.at 0 h0
   rw [ha] at e
   cases e
def ItsV (T : TypeId) (base : Nat) (X : List Itm) (v : Value) (w : World) : Prop := w.ownsRow base T 2 v X.length (X.flatMap ic)
theorem ItsV.nil (T : TypeId) (base : Nat) (w : World) : ItsV T base [] (.slice none 0 0) w := World.ownsRow_nil _ _ _ _
theorem ItsV.keep {T : TypeId} {base : Nat} {X : List Itm} {v : Value} {w w' : World} (h : ItsV T base X v w) (hb : ∀ g, v.ownBlock = some g -> w'.heap[g]? = w.heap[g]?) : ItsV T base X v w' := Sep.zAE h hb
theorem ItsV.went {T : TypeId} {base : Nat} {X : List Itm} {v : Value} {w w' : World} (h : ItsV T base X v w) (hb : Below w.heap.size w w') : ItsV T base X v w' := h.keep fun g hg => hb.block g (World.ownsRow.lt h g hg).2
theorem ItsV.mono {T : TypeId} {b b' : Nat} {X : List Itm} {v : Value} {w : World} (h : ItsV T b X v w) (hb : b' <= b) : ItsV T b' X v w := Rw.zBG h hb
theorem ItsV.shape {T : TypeId} {base : Nat} {X : List Itm} {v : Value} {w : World} (h : ItsV T base X v w) : ∃ a c, v = .slice a X.length c /\ X.length <= c := by
 rcases h.2 with ⟨rfl, h0⟩ | ⟨g, cap, cur, rfl, _, _, h5, _⟩
 ·exact ⟨none, 0, by rw [h0], by omega⟩
 ·exact ⟨_, cap, rfl, h5⟩
theorem ItsV.reads {T : TypeId} {base : Nat} {X : List Itm} {a : Option Addr} {c : Nat} {w : World} (h : ItsV T base X (.slice a X.length c) w) : ItsA a X w := fun i hi => by
 have hl := zAQ X
 rcases h.2 with ⟨_, h0⟩ | ⟨g, cap, cur, he, _⟩
 ·omega
 ·simp only [Value.slice.injEq] at he
  obtain ⟨rfl, _, _⟩ := he
  refine ⟨g, 0, rfl, ?_⟩
  have := World.ownsRow.cells h (g := g) rfl i _ (List.getElem?_eq_getElem hi)
  rw [WideShapes.add_plain] at this
  simpa using this
theorem zDb (T : TypeId) (base q : Nat) (x : Itm) (w : World) (hq : q = w.heap.size) (hb : base <= q) : (w.alloc (.cells #[.int .i64 x.1, .int .i64 x.2] T)).ownsRow base T 2 (.slice (some ⟨q, 0, none⟩) 1 1) 1 (ic x) := by
 subst hq
 exact World.ownsRow_lit w #[.int .i64 x.1, .int .i64 x.2] 1 hb (by decide) (by simp)
theorem ItsV.of_append {T : TypeId} {base n m : Nat} {X Y : List Itm} {v : Value} {w : World} (h : w.ownsRow base T 2 v (n + m) (X.flatMap ic ++ Y.flatMap ic)) (hn : n = X.length) (hm : m = Y.length) : ItsV T base (X ++ Y) v w := by
 subst hn hm
 unfold ItsV
 rw [List.length_append, zE0]
 exact h
end Im
namespace Im
open Go.RowKit Go.Maps
def W64 (x : Itm) : Prop := (Lit.int .i64 x.1).wf = true /\ (Lit.int .i64 x.2).wf = true
def iv (x : Itm) : Value := .agg #[.int .i64 x.1, .int .i64 x.2]
def ik (x : Itm) : Lit := .string (keyBytes [.int .i64 x.1, .int .i64 x.2])
theorem zKv {x y : Itm} (hx : W64 x) (hy : W64 y) (h : ik x = ik y) : x = y := by
 unfold ik at h
 simp only [Lit.string.injEq] at h
 have := keyBytes_inj (l := [.int .i64 x.1, .int .i64 x.2]) (l' := [.int .i64 y.1, .int .i64 y.2]) (by simp [Alike, Lit.sameKind])
  (fun a ha => by
   simp only [List.mem_cons, List.not_mem_nil, or_false] at ha
   rcases ha with rfl | rfl
   ·exact hx.1
   ·exact hx.2)
  (fun a ha => by
   simp only [List.mem_cons, List.not_mem_nil, or_false] at ha
   rcases ha with rfl | rfl
   ·exact hy.1
   ·exact hy.2) h
 simp at this
 exact Prod.ext this.1 this.2
structure Kt (P : Program) (K : TypeId) : Prop where
 law : Keyed P K
 key : ∀ x, W64 x -> keyOf P K (iv x) = some (ik x)
 inv : ∀ key kl, keyOf P K key = some kl -> ∃ x, W64 x /\ key = iv x /\ kl = ik x
theorem zIH {P : Program} {d : Nat} {t : TypeId} {v : Value} {l : List Lit} (hu : P.underlying t = some (.int .i64)) (h : P.keyLits (d + 1) t [v] = some l) : ∃ n, v = .int .i64 n /\ (Lit.int .i64 n).wf = true /\ l = [.int .i64 n] := by
 unfold Program.keyLits at h
 rw [hu] at h
 cases v <;> simp at h
 obtain ⟨⟨rfl, hw⟩, rfl⟩ := h
 exact ⟨_, rfl, hw, rfl⟩
theorem zSd {P : Program} {K : TypeId} (fa fb : Field) (law : Keyed P K) (hu : P.underlying K = some (.struct #[fa, fb])) (ha : P.underlying fa.type = some (.int .i64)) (hb : P.underlying fb.type = some (.int .i64)) (hkt : P.keyType K = true) (hcells : P.cellsOf K = 2)
  (ca : P.cellsOf fa.type = 1) (cb : P.cellsOf fb.type = 1) (oa : fa.offset = 0) (ob : fb.offset = 1) (na : (fa.name != "_") = true) (nb : (fb.name != "_") = true) (n : Nat) (hn : P.types.size = n + 1) : Kt P K := by
 refine ⟨law, fun x hx => ?_, fun key kl h => ?_⟩
 ·unfold keyOf iv
  rw [hu]
  simp only [hkt, Bool.true_and]
  rw [if_pos (by simp [Value.formed, hu, hcells])]
  rw [hn]
  simp [Program.keyLits, hu, hcells, ca, cb, oa, ob, ha, hb, na, nb, hx.1, hx.2, Value.cells, ik]
 ·unfold keyOf at h
  rw [hu] at h
  simp only [hkt, Bool.true_and] at h
  split at h
  ·rename_i hf
   rw [Option.map_eq_some_iff] at h
   obtain ⟨ls, hls, rfl⟩ := h
   cases key <;> simp [Value.formed, hu, hcells] at hf
   rename_i cs
   obtain ⟨cs⟩ := cs
   rcases cs with _ | ⟨a, _ | ⟨b, _ | ⟨c, cs⟩⟩⟩ <;> simp at hf
   rw [hn] at hls
   unfold Program.keyLits at hls
   rw [hu] at hls
   simp [hcells, ca, cb, oa, ob, na, nb, Value.cells] at hls
   cases h1 : P.keyLits (n + 1) fa.type [a] with
   | none => rw [h1] at hls; simp at hls
   | some l1 =>
    cases h2 : P.keyLits (n + 1) fb.type [b] with
    | none => rw [h1, h2] at hls; simp at hls
    | some l2 =>
     rw [h1, h2] at hls
     obtain ⟨x, rfl, wx, rfl⟩ := zIH ha h1
     obtain ⟨y, rfl, wy, rfl⟩ := zIH hb h2
     simp at hls
     subst hls
     exact ⟨(x, y), ⟨wx, wy⟩, rfl, rfl⟩
  ·cases h
section
variable {H : Type} {P : Program} {K T E : TypeId} {R : Value -> Option (DataW H × List MemPlace)}
def MSet (P : Program) (K : TypeId) (R : Value -> Option (DataW H × List MemPlace)) (u : DataW H) (b n : Nat) (X : Itm -> Prop) (w : World) : Prop :=
 ∃ D : DataW H, w.ownsMap P K R b n D /\ ∀ x, W64 x -> (X x /\ ∀ z, D.atKey (ik x) z = u) \/ (¬ X x /\ ∀ z, D.atKey (ik x) z = z)
theorem MSet.made (w : World) (P : Program) (K : TypeId) (R : Value -> Option (DataW H × List MemPlace)) (u : DataW H) : MSet P K R u w.heap.size 0 (fun _ => False) (w.alloc (.map #[] 0)) :=
 ⟨_, World.ownsMap_made w P K R, fun x _ => .inr ⟨id, fun z => rfl⟩⟩
theorem MSet.lt {u : DataW H} {b n : Nat} {X : Itm -> Prop} {w : World} (h : MSet P K R u b n X w) : b < w.heap.size := by
 obtain ⟨D, h, _⟩ := h
 exact h.lt
theorem MSet.mono {u : DataW H} {b n n' : Nat} {X : Itm -> Prop} {w : World} (h : MSet P K R u b n X w) (hn : n <= n') : MSet P K R u b n' X w := by
 obtain ⟨D, h, k⟩ := h
 exact ⟨D, h.mono hn, k⟩
theorem MSet.iff {u : DataW H} {b n : Nat} {X Y : Itm -> Prop} {w : World} (h : MSet P K R u b n X w) (e : ∀ x, W64 x -> (X x ↔ Y x)) : MSet P K R u b n Y w := by
 obtain ⟨D, h, k⟩ := h
 exact ⟨D, h, fun x hx => (k x hx).imp (fun q => ⟨(e x hx).1 q.1, q.2⟩) (fun q => ⟨fun y => q.1 ((e x hx).2 y), q.2⟩)⟩
theorem MSet.keep {u : DataW H} {b n : Nat} {X : Itm -> Prop} {w w' : World} (h : MSet P K R u b n X w) (hb : w'.heap[b]? = w.heap[b]?) : MSet P K R u b n X w' := by
 obtain ⟨D, ⟨es, clock, h1, h2⟩, k⟩ := h
 exact ⟨D, ⟨es, clock, hb.trans h1, h2⟩, k⟩
theorem MSet.went {u : DataW H} {b n : Nat} {X : Itm -> Prop} {w w' : World} (h : MSet P K R u b n X w) (hb : Below w.heap.size w w') : MSet P K R u b n X w' := h.keep (hb.block b h.lt)
theorem MSet.look_ok {u : DataW H} {b n : Nat} {X : Itm -> Prop} {w : World} (h : MSet P K R u b n X w) (k : Kt P K) (ht : P.underlying T = some (.map K E)) {z : Value} (hz : (zeroValue E).run P w = .ok z w) {zd : DataW H} {zp : List MemPlace} (hzd : R z = some (zd, zp)) {x : Itm} (hx : W64 x) :
  ∃ (c : Bool) (v : Value) (ps : List MemPlace), (c = true ↔ X x) /\ (Instr.lookup T (.map (some b)) (iv x) true).run P w = .ok (.tuple #[v, .bool c]) w /\ R v = some (if c then u else zd, ps) := by
 obtain ⟨D, ho, kd⟩ := h
 obtain ⟨v, ps, hrun, hR⟩ := ho.look_ok k.law ht hz hzd (k.key x hx)
 rcases kd x hx with ⟨q, hat⟩ | ⟨q, hat⟩
 ·rw [Maps.has_true_of_atKey hat] at hrun
  exact ⟨true, v, ps, ⟨fun _ => q, fun _ => rfl⟩, hrun, by rw [hR, hat]; rfl⟩
 ·rw [Maps.has_false_of_atKey hat] at hrun
  exact ⟨false, v, ps, ⟨fun e => Bool.noConfusion e, fun e => absurd e q⟩, hrun, by rw [hR, hat]; rfl⟩
theorem MSet.store {u : DataW H} {b n : Nat} {X : Itm -> Prop} {w : World} (h : MSet P K R u b n X w) (k : Kt P K) (ht : P.underlying T = some (.map K E)) (hn : n < maxLen) {v : Value} {ps : List MemPlace} (hv : R v = some (u, ps)) {x : Itm} (hx : W64 x) :
  ∃ w', (Instr.mapUpdate T (.map (some b)) (iv x) v).run P w = .ok () w' /\ MSet P K R u b (n + 1) (fun y => X y \/ y = x) w' /\ w.mapTurned w' b := by
 obtain ⟨D, ho, kd⟩ := h
 obtain ⟨w', hrun, h1, h2⟩ := ho.store k.law ht hn (k.key x hx) hv
 refine ⟨w', hrun, ⟨_, h1, fun y hy => ?_⟩, h2⟩
 by_cases e : y = x
 ·subst e
  exact .inl ⟨.inr rfl, fun z => Maps.atKey_put_same ho.isMap (k.law.key (k.key y hy)) u z⟩
 ·have hne : ik y ≠ ik x := fun q => e (zKv hy hx q)
  rcases kd y hy with ⟨q, hat⟩ | ⟨q, hat⟩
  ·exact .inl ⟨.inl q, fun z => (Maps.atKey_put_other hne u z).trans (hat z)⟩
  ·exact .inr ⟨fun r => r.elim q e, fun z => (Maps.atKey_put_other hne u z).trans (hat z)⟩
theorem zGy {o : Oper} {a : Act} {K' : Act -> World -> Prop} {Q : Exit -> Act -> World -> Prop} (w : World) (m y : Operand) (hop : o.op = Op.lookup T m y true) (k : Kt P K) (ht : P.underlying T = some (.map K E))
  (hz : (zeroValue E).run P w = .ok (.agg #[]) w) (b n : Nat) (X : Itm -> Prop) (hm : a.eval m = .map (some b)) (h : MSet (H := H) P K unitElem (.agg []) b n X w) (x : Itm) (hy : a.eval y = iv x) (hx : W64 x)
  (hK : ∀ c : Bool, (c = true ↔ X x) -> K' (a.put o.dst (.tuple #[.agg #[], .bool c])) w) : o.wp P a w K' Q := by
 obtain ⟨c, v, ps, hc, hrun, hR⟩ := h.look_ok k ht hz unitElem_mk hx
 obtain ⟨rfl, _⟩ := unitElem_inv hR
 unfold Oper.wp
 simp [execOp, hop, hm, hy, hrun, Result.andThen]
 exact hK c hc
theorem zHx {o : Oper} {a : Act} {K' : Act -> World -> Prop} {Q : Exit -> Act -> World -> Prop} (w : World) (m y v : Operand) (hop : o.op = Op.mapUpdate T m y v) (k : Kt P K) (ht : P.underlying T = some (.map K E))
  (u : DataW H) (b n : Nat) (X : Itm -> Prop) (hm : a.eval m = .map (some b)) (h : MSet P K R u b n X w) (hn : n < maxLen) (x : Itm) (hy : a.eval y = iv x) (hx : W64 x) (ps : List MemPlace) (hv : R (a.eval v) = some (u, ps))
  (hK : ∀ w', MSet P K R u b (n + 1) (fun y => X y \/ y = x) w' -> w.mapTurned w' b -> K' (a.put o.dst undef) w') : o.wp P a w K' Q := by
 obtain ⟨w', hrun, h1, h2⟩ := h.store k ht hn hv hx
 unfold Oper.wp
 simp [execOp, hop, hm, hy, hrun, Result.andThen]
 exact hK w' h1 h2
theorem zDU {ops : Array Oper} {rest : List Oper} {o : Oper} {a : Act} {w : World} {Q : Exit -> Act -> World -> Prop} (hg : o.guard = none) (h : ∀ K' : Act -> World -> Prop, (∀ a' w', wpList P ops Q rest a' w' -> K' a' w') -> o.wp P a w K' Q) : wpList P ops Q (o :: rest) a w :=
 wpList_plain hg fun K' hK => h K' hK
end
end Im
namespace Au
open Go.RowKit Go.Maps Go.WideShapes Go.ChangeShapes Go.Joins Go.Deep
open Gr (cell_later)
open Im
abbrev Sta := List Itm × List (Int × Int)
def zG1 (a : Option Addr) (i : Nat) (s : Sta) (w : World) : Prop :=
 ∃ b o a1 c1 a2 c2, a = some ⟨b, o, none⟩ /\ w.cell? ⟨b, o + i * 2, none⟩ = some (.slice a1 s.1.length c1) /\ w.cell? ⟨b, o + i * 2 + 1, none⟩ = some (.slice a2 s.2.length c2) /\ ItsA a1 s.1 w /\ ItsA a2 s.2 w /\ s.1.length <= c1 /\ s.2.length <= c2
def StaA (a : Option Addr) (X : List Sta) (w : World) : Prop := ∀ i (h : i < X.length), zG1 a i X[i] w
theorem zG1.went {a : Option Addr} {i : Nat} {s : Sta} {w w' : World} (h : zG1 a i s w) (hb : Below w.heap.size w w') : zG1 a i s w' := by
 obtain ⟨b, o, a1, c1, a2, c2, e, h1, h2, h3, h4, h5, h6⟩ := h
 exact ⟨b, o, a1, c1, a2, c2, e, cell_later hb h1, cell_later hb h2, h3.went hb, h4.went hb, h5, h6⟩
theorem StaA.went {a : Option Addr} {X : List Sta} {w w' : World} (h : StaA a X w) (hb : Below w.heap.size w w') : StaA a X w' := fun i hi => (h i hi).went hb
theorem StaA.nil (a : Option Addr) (w : World) : StaA a [] w := fun i hi => absurd hi (Nat.not_lt_zero i)
end Au
namespace Au
open Go.RowKit Go.Maps
open Im
def LOk (Y : List Itm) (u v : Value) (w : World) : Prop := ∃ a c, u = .slice a Y.length c /\ Y.length <= c /\ ItsA a Y w /\ (Y ≠ [] -> ∀ b o, a = some ⟨b, o, none⟩ -> v.ownBlock ≠ some b)
theorem zE1 {a : Option Addr} {Y : List Itm} {w : World} (h : ItsA a Y w) (hn : Y ≠ []) {b o : Nat} (e : a = some ⟨b, o, none⟩) : b < w.heap.size := by
 cases Y with
 | nil => exact absurd rfl hn
 | cons y Y =>
  obtain ⟨b', o', e', hc⟩ := h 0 (by rw [zAQ]; simp)
  rw [e] at e'
  injection e' with e'
  injection e' with e1 e2
  subst e1
  exact World.block_lt_of_cell? _ _ hc
theorem LOk.to {Y : List Itm} {u v v' : Value} {w w' : World} (h : LOk Y u v w) (hb : ∀ b, b < w.heap.size -> v.ownBlock ≠ some b -> w'.heap[b]? = w.heap[b]?) (hv : ∀ b, b < w.heap.size -> v.ownBlock ≠ some b -> v'.ownBlock ≠ some b) : LOk Y u v' w' := by
 obtain ⟨a, c, h1, h2, h3, h4⟩ := h
 by_cases hn : Y = []
 ·subst hn
  exact ⟨a, c, h1, h2, .nil _ _, fun q => absurd rfl q⟩
 ·exact ⟨a, c, h1, h2, h3.keep fun b o e => hb b (zE1 h3 hn e) (h4 hn b o e), fun _ b o e => hv b (zE1 h3 hn e) (h4 hn b o e)⟩
theorem LOk.went {Y : List Itm} {u v : Value} {w w' : World} (h : LOk Y u v w) (hb : Below w.heap.size w w') : LOk Y u v w' := h.to (fun b hl _ => hb.block b hl) fun _ _ q => q
theorem LOk.grown {Y : List Itm} {u v v' : Value} {w w' : World} (h : LOk Y u v w) (hg : w.grownBy w' v.ownBlock) (hv : v'.ownBlock = v.ownBlock \/ ∃ n, w.heap.size <= n /\ v'.ownBlock = some n) : LOk Y u v' w' :=
 h.to (fun b hl q => hg.block b hl fun e => q e.symm) fun b hl q e => by
  rcases hv with h1 | ⟨n, hn, h1⟩
  ·exact q (h1.symm.trans e)
  ·rw [h1] at e
   injection e with e
   omega
abbrev StC := Sta × (Value × Value)
def sc (x : StC) : List Value := [x.2.1, x.2.2]
theorem zGs (x : StC) : (sc x).length = 2 := rfl
structure StV (T : TypeId) (base : Nat) (L : List StC) (v : Value) (w : World) : Prop where
 row : w.ownsRow base T 2 v L.length (L.flatMap sc)
 lists : ∀ x ∈ L, LOk x.1.1 x.2.1 v w /\ LOk x.1.2 x.2.2 v w
theorem StV.went {T : TypeId} {base : Nat} {L : List StC} {v : Value} {w w' : World} (h : StV T base L v w) (hb : Below w.heap.size w w') : StV T base L v w' :=
 ⟨Sep.zAE h.row fun g hg => hb.block g (h.row.lt g hg).2, fun x hx => ⟨(h.lists x hx).1.went hb, (h.lists x hx).2.went hb⟩⟩
theorem StV.nil (T : TypeId) (base : Nat) (w : World) : StV T base [] (.slice none 0 0) w := ⟨World.ownsRow_nil _ _ _ _, fun x hx => by cases hx⟩
theorem StV.len {T : TypeId} {base : Nat} {L : List StC} {v : Value} {w : World} (h : StV T base L v w) : ∃ a c, v = .slice a L.length c /\ L.length <= c := by
 rcases h.row.2 with ⟨rfl, h0⟩ | ⟨g, cap, cur, rfl, _, _, h5, _⟩
 ·exact ⟨none, 0, by rw [h0], by rw [h0]; exact Nat.le_refl _⟩
 ·exact ⟨_, cap, rfl, h5⟩
theorem StV.at {T : TypeId} {base : Nat} {L : List StC} {a : Option Addr} {c : Nat} {w : World} (h : StV T base L (.slice a L.length c) w) : StaA a (L.map Prod.fst) w := by
 intro i hi
 have hi' : i < L.length := by simpa using hi
 rcases h.row.2 with ⟨_, h0⟩ | ⟨g, cap, cur, he, _⟩
 ·omega
 ·simp only [Value.slice.injEq] at he
  obtain ⟨rfl, _, _⟩ := he
  have hc := World.ownsRow.cells h.row (g := g) rfl
  obtain ⟨⟨a1, c1, u1, l1, i1, _⟩, ⟨a2, c2, u2, l2, i2, _⟩⟩ := h.lists _ (List.getElem_mem hi')
  have t0 := hc (i * 2 + 0) _ (Rw.zB3 sc zGs L i hi' 0 (by omega))
  have t1 := hc (i * 2 + 1) _ (Rw.zB3 sc zGs L i hi' 1 (by omega))
  rw [WideShapes.add_plain] at t0 t1
  rw [List.getElem_map]
  refine ⟨g, 0, a1, c1, a2, c2, rfl, ?_, ?_, i1, i2, l1, l2⟩
  ·rw [← u1]
   simpa using t0
  ·rw [← u2]
   simpa using t1
theorem StV.snoc {T : TypeId} {base : Nat} {L : List StC} {v v' : Value} {w w' : World} (h : StV T base L v w) (x : StC) (hx : LOk x.1.1 x.2.1 v w /\ LOk x.1.2 x.2.2 v w) (hr : w'.ownsRow base T 2 v' (L.length + 1) (L.flatMap sc ++ sc x)) (hg : w.grownBy w' v.ownBlock) (hv : v'.ownBlock = v.ownBlock \/ ∃ n, w.heap.size <= n /\ v'.ownBlock = some n) : StV T base (L ++ [x]) v' w' := by
 refine ⟨?_, fun y hy => ?_⟩
 ·rw [List.length_append, List.flatMap_append]
  simpa using hr
 ·have key : LOk y.1.1 y.2.1 v w /\ LOk y.1.2 y.2.2 v w := by
   rcases List.mem_append.1 hy with q | q
   ·exact h.lists y q
   ·rw [List.mem_singleton] at q
    rw [q]
    exact hx
  exact ⟨key.1.grown hg hv, key.2.grown hg hv⟩
end Au
namespace Au
open Go.RowKit Go.Maps
open Gr (cell_later)
open Im
def upd {α : Type} (f : Nat -> α) (s : Nat) (x : α) : Nat -> α := fun r => if r = s then x else f r
theorem upd_same {α : Type} (f : Nat -> α) (s : Nat) (x : α) : upd f s x s = x := if_pos rfl
theorem zAC {α : Type} {f : Nat -> α} {s r : Nat} {x : α} (h : r ≠ s) : upd f s x r = f r := if_neg h
structure Fam (T : TypeId) (b m n : Nat) (F : Nat -> List Itm) (D : Nat -> Value) (w : World) : Prop where
 cell : ∀ s, s < n -> w.cell? ⟨b, s, none⟩ = some (D s)
 free : ∀ s, w.frozen? ⟨b, s, none⟩ = false
 row : ∀ s, s < n -> ItsV T m (F s) (D s) w
 off : ∀ s r, s < n -> r < n -> s ≠ r -> ∀ g, (D s).ownBlock = some g -> (D r).ownBlock ≠ some g
 bm : b < m
 le : m <= w.heap.size
theorem Fam.went {T : TypeId} {b m n : Nat} {F : Nat -> List Itm} {D : Nat -> Value} {w w' : World} (h : Fam T b m n F D w) (hb : Below w.heap.size w w') : Fam T b m n F D w' :=
 have hl : b < w.heap.size := Nat.lt_of_lt_of_le h.bm h.le
 ⟨fun s hs => cell_later hb (h.cell s hs), fun s => (World.frozen?_of_block (a := ⟨b, s, none⟩) (hb.block b hl)).trans (h.free s), fun s hs => (h.row s hs).went hb, h.off, h.bm, Nat.le_trans h.le hb.size⟩
theorem Fam.congr {T : TypeId} {b m n : Nat} {F F' : Nat -> List Itm} {D : Nat -> Value} {w : World} (h : Fam T b m n F D w) (e : ∀ s, s < n -> F s = F' s) : Fam T b m n F' D w :=
 ⟨h.cell, h.free, fun s hs => by rw [← e s hs]; exact h.row s hs, h.off, h.bm, h.le⟩
theorem Fam.put {T : TypeId} {b m n : Nat} {F : Nat -> List Itm} {D : Nat -> Value} {w w' : World} (h : Fam T b m n F D w) {s : Nat} (hs : s < n) {y : Itm} {v' : Value} (hr : ItsV T m (F s ++ [y]) v' w') (hg : w.grownBy w' (D s).ownBlock) (hv : v'.ownBlock = (D s).ownBlock \/ v'.ownBlock = some w.heap.size) :
  Fam T b m n (upd F s (F s ++ [y])) (upd D s v') (w'.setCell ⟨b, s, none⟩ v') := by
 have hl : b < w.heap.size := Nat.lt_of_lt_of_le h.bm h.le
 have own : ∀ r, r < n -> ∀ g, (D r).ownBlock = some g -> m <= g /\ g < w.heap.size := fun r hr g hg => World.ownsRow.lt (h.row r hr) g hg
 have eb : w'.heap[b]? = w.heap[b]? := hg.block b hl fun e => by
  have := (own s hs b e.symm).1
  have := h.bm
  omega
 have own' : ∀ g, v'.ownBlock = some g -> m <= g := fun g hg => (World.ownsRow.lt hr g hg).1
 have other : ∀ g, g ≠ b -> (w'.setCell ⟨b, s, none⟩ v').heap[g]? = w'.heap[g]? := fun g hg => Below.heap_setCell _ _ _ _ hg
 refine ⟨fun r hr' => ?_, fun r => ?_, fun r hr' => ?_, fun r z hr' hq hne g e1 e2 => ?_, h.bm, ?_⟩
 ·by_cases e : r = s
  ·subst e
   rw [upd_same]
   exact World.cell?_setCell_same _ _ _ ((World.cell?_of_block (a := ⟨b, r, none⟩) eb).trans (h.cell r hr'))
  ·rw [zAC e, World.cell?_setCell_other _ _ _ _ (fun q => e (congrArg Addr.off q).symm)]
   exact (World.cell?_of_block (a := ⟨b, r, none⟩) eb).trans (h.cell r hr')
 ·rw [World.frozen?_setCell]
  exact (World.frozen?_of_block (a := ⟨b, r, none⟩) eb).trans (h.free r)
 ·by_cases e : r = s
  ·subst e
   rw [upd_same, upd_same]
   exact hr.keep fun g e => other g (by have := own' g e; have := h.bm; omega)
  ·rw [zAC e, zAC e]
   refine (h.row r hr').keep fun g hg' => ?_
   have h1 := own r hr' g hg'
   rw [other g (by have := h.bm; omega)]
   exact hg.block g h1.2 fun q => h.off r s hr' hs e g hg' q.symm
 ·by_cases er : r = s
  ·subst er
   rw [upd_same] at e1
   rw [zAC (fun q => hne q.symm)] at e2
   rcases hv with k | k
   ·exact h.off r z hr' hq hne g (k ▸ e1) e2
   ·have := (own _ hq g e2).2
    rw [k] at e1
    injection e1 with e1
    omega
  ·rw [zAC er] at e1
   by_cases eq : z = s
   ·subst eq
    rw [upd_same] at e2
    rcases hv with q' | q'
    ·exact h.off r z hr' hq hne g e1 (q' ▸ e2)
    ·have := (own _ hr' g e1).2
     rw [q'] at e2
     injection e2 with e2
     omega
   ·rw [zAC eq] at e2
    exact h.off r z hr' hq hne g e1 e2
 ·rw [show (w'.setCell ⟨b, s, none⟩ v').heap.size = w'.heap.size by simp [World.setCell]]
  exact Nat.le_trans h.le hg.size
theorem Fam.fr {T : TypeId} {b m n : Nat} {F : Nat -> List Itm} {D : Nat -> Value} {w w' : World} {v' : Value} (h : Fam T b m n F D w) {s : Nat} (hs : s < n) (hg : w.grownBy w' (D s).ownBlock) {w0 : World} (f : Sep.Fr (· = b) w0 w) (hm : w0.heap.size <= m) : Sep.Fr (· = b) w0 (w'.setCell ⟨b, s, none⟩ v') :=
 (f.grown hg fun k hk => .inr (Nat.le_trans hm (World.ownsRow.lt (h.row s hs) k hk).1)).setCell _ rfl _
