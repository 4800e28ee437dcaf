/- A part of the proof. -/
import Derived.Test.YtbcgmiocolpjoaaGreatPk17
import Derived.Laws.BytesArg
set_option linter.unusedVariables false
namespace Go.Proofs.YtbcgmiocolpjoaaGreat
namespace Au
open Gr (Gram checkN zAk zAN zAW top zAt zBp zBP zAY)
open Im
def Stop (q : Whole) : Prop := 2000 < q.1.length \/ q.2.length = q.1.length
def zCE (G : Gram) (n : Nat) : Prop := Stop (runs G (top G) n) /\ ∀ m, m < n -> ¬ Stop (runs G (top G) m)
theorem zCE.uniq {G : Gram} {n m : Nat} (h : zCE G n) (k : zCE G m) : n = m := by
 rcases Nat.lt_trichotomy n m with q | q | q
 ·exact absurd h.1 (k.2 n q)
 ·exact q
 ·exact absurd k.1 (h.2 m q)
theorem zCY {G : Gram} (hv : checkN G = 0) {r : Int} (hr : zAW G r = true) {d : Nat} (hd : d < (zAN G r).2.length) : 1 <= (zAN G r).2[d] /\ (zAN G r).2[d] <= (top G : Int) := by
 have hk := (zAk hv).2.2.2.1
 have hb : 0 <= r /\ r <= (G.rules.length : Int) := by
  unfold zAW at hr
  exact of_decide_eq_true hr
 obtain ⟨i, rfl⟩ := Int.eq_ofNat_of_zero_le hb.1
 simp only [zAt, Bool.and_eq_true, List.all_eq_true, decide_eq_true_eq] at hk
 by_cases e : i = G.rules.length
 ·subst e
  have h2 := (zBP G).2
  have h3 := zAY.1 hk.1
  have e1 : (zAN G ((G.rules.length : Nat) : Int)).2 = [G.start] := by rw [h2]
  have e0 : (zAN G ((G.rules.length : Nat) : Int)).2[d] = G.start := by
   have : d = 0 := by rw [e1] at hd; simp at hd; omega
   subst this
   simp only [e1, List.getElem_cons_zero]
  rw [e0]
  unfold top
  omega
 ·have hi : i < G.rules.length := by omega
  have h2 := (zBp hi).2
  have hm := (hk.2 _ (List.getElem_mem hi)).2
  have hin : (zAN G (i : Int)).2[d] ∈ (zAN G (i : Int)).2 := List.getElem_mem hd
  have e1 : (zAN G (i : Int)).2 = (G.rules[i]).2 := by rw [h2]
  rw [← e1] at hm
  exact hm _ hin
theorem zEa {G : Gram} {r : Int} {d : Nat} (hr : zAW G r = true) (hd : d < (zAN G r).2.length) : behB G (r, (d : Int)) = true /\ behV G (r, (d : Int)) = (zAN G r).2[d] := by
 have hb : behB G (r, (d : Int)) = true := by
  rw [zBi]
  refine ⟨?_, by unfold rlen; dsimp only; omega⟩
  unfold zAD rlen
  rw [hr, Bool.true_and, decide_eq_true_iff]
  dsimp only
  omega
 refine ⟨hb, ?_⟩
 unfold behV
 rw [if_pos hb]
 simp [hd]
def zF5 (G : Gram) (s : Int) (x : Itm) : Prop := zAW G x.1 = true /\ 1 <= x.2 /\ x.2 <= (rlen G x.1 : Int) /\ (zAN G x.1).2.getD (x.2 - 1).toNat 0 = s
theorem zGZ {G : Gram} {L : List Itm} {s : Int} {x : Itm} (h : zFC G L s x) : zF5 G s x := by
 obtain ⟨y, _, h1, h2, rfl⟩ := h
 obtain ⟨h3, h4⟩ := zBi.1 h1
 obtain ⟨h5, h6⟩ := zAc.1 h3
 refine ⟨?_, by dsimp only; omega, by dsimp only; omega, ?_⟩
 ·unfold zAW
  exact decide_eq_true h5
 ·unfold behV at h2
  rw [if_pos h1] at h2
  dsimp only
  rw [show (y.2 + 1 - 1).toNat = y.2.toNat from by congr 1; omega]
  exact h2
structure Done (G : Gram) (q : Whole) : Prop where
 ok : WholeOk G (top G) q
 all : q.2.length = q.1.length
theorem Done.to {G : Gram} {q : Whole} (h : Done G q) {k : Nat} (hk : k < q.1.length) {s t : Int} (hm : (s, t) ∈ q.2.getD k []) : ∃ n : Nat, t = (n : Int) /\ n < q.1.length /\ zAI q.1 n = stL G (clL G (zAI q.1 k)) s := by
 have hl : k < q.2.length := by rw [h.all]; exact hk
 rw [h.ok.trans k hl] at hm
 obtain ⟨i, hi, rfl, hn, rfl⟩ := zAz.1 hm
 have := zMX (h.ok.here k hl i hi hn)
 exact ⟨_, rfl, this.1, this.2⟩
theorem Done.enters {G : Gram} {q : Whole} (h : Done G q) {k : Nat} (hk : k < q.1.length) {s t : Int} (hm : (s, t) ∈ q.2.getD k []) : ∃ n : Nat, t = (n : Int) /\ n < q.1.length /\ ∀ x ∈ zAI q.1 n, zF5 G s x := by
 obtain ⟨n, h1, h2, h3⟩ := h.to hk hm
 refine ⟨n, h1, h2, fun x hx => ?_⟩
 rw [h3] at hx
 exact zGZ (((zEm _ _ _).2 x).1 hx)
theorem Done.early {G : Gram} {q : Whole} (h : Done G q) {t : Nat} (h0 : 0 < t) (ht : t < q.1.length) : ∃ k s, k < t /\ (s, (t : Int)) ∈ q.2.getD k [] := by
 obtain ⟨k, i, h1, h2, h3, h4⟩ := h.ok.early t h0 ht
 refine ⟨k, ((i + 1 : Nat) : Int), h1, ?_⟩
 rw [h.ok.trans k h2]
 refine zAz.2 ⟨i, h3, rfl, ?_, ?_⟩
 ·rw [← h4]
  exact (h.ok.good _ (zBX ht)).1
 ·rw [← h4, zAd ht]
  congr 1
  exact (h.ok.nodup.idxOf_getElem t ht).symm
theorem Done.some {G : Gram} {q : Whole} (h : Done G q) {t : Nat} (ht : t < q.1.length) : zAI q.1 t ≠ [] := (h.ok.good _ (zBX ht)).1
def zI7 (n : Nat) (ts : List (List (Int × Int))) (i s : Int) : Int := if 0 <= i /\ i < (n : Int) then leads (ts.getD i.toNat []) s else -1
def zCz (n : Nat) (ts : List (List (Int × Int))) (i : Int) : List Int -> Int
 | [] => if 0 <= i /\ i < (n : Int) then i else -1
 | s :: way => if 0 <= i /\ i < (n : Int) then zCz n ts (zI7 n ts i s) way else -1
theorem walk_nil {n : Nat} {ts : List (List (Int × Int))} {i : Nat} (h : i < n) : zCz n ts (i : Int) [] = (i : Int) := by
 unfold zCz
 rw [if_pos ⟨by omega, by omega⟩]
theorem zKm {n : Nat} {ts : List (List (Int × Int))} {i : Nat} (h : i < n) (s : Int) (way : List Int) : zCz n ts (i : Int) (s :: way) = zCz n ts (leads (ts.getD i []) s) way := by
 show (if 0 <= (i : Int) /\ (i : Int) < (n : Int) then zCz n ts (zI7 n ts i s) way else -1) = _
 rw [if_pos ⟨by omega, by omega⟩]
 unfold zI7
 rw [if_pos ⟨by omega, by omega⟩, Int.toNat_natCast]
theorem Done.one {G : Gram} {q : Whole} (h : Done G q) (hv : checkN G = 0) {i : Nat} (hi : i < q.1.length) {r : Int} {d : Nat} (hr : zAW G r = true) (hd : d < (zAN G r).2.length) (hx : (r, (d : Int)) ∈ clL G (zAI q.1 i)) :
  ∃ j : Nat, j < q.1.length /\ leads (q.2.getD i []) (zAN G r).2[d] = (j : Int) /\ (r, ((d + 1 : Nat) : Int)) ∈ zAI q.1 j := by
 obtain ⟨b1, b2⟩ := zEa hr hd
 obtain ⟨s1, s2⟩ := zCY hv hr hd
 have hl : i < q.2.length := by rw [h.all]; exact hi
 obtain ⟨m, hm⟩ := Int.eq_ofNat_of_zero_le (show 0 <= (zAN G r).2[d] - 1 by omega)
 have hs : (zAN G r).2[d] = ((m + 1 : Nat) : Int) := by omega
 have hmt : m < top G := by omega
 have hst : (r, ((d + 1 : Nat) : Int)) ∈ stL G (clL G (zAI q.1 i)) ((m + 1 : Nat) : Int) := ((zEm _ _ _).2 _).2 ⟨(r, (d : Int)), hx, b1, by rw [b2, hs], by simp⟩
 have hn : stL G (clL G (zAI q.1 i)) ((m + 1 : Nat) : Int) ≠ [] := fun e => by rw [e] at hst; cases hst
 have hin := zMX (h.ok.here i hl m hmt hn)
 refine ⟨_, hin.1, ?_, by rw [hin.2]; exact hst⟩
 rw [hs, h.ok.trans i hl, zGG hmt hn]
theorem Done.way {G : Gram} {q : Whole} (h : Done G q) (hv : checkN G = 0) {r : Int} (hr : zAW G r = true) : ∀ (m d : Nat) (i : Nat), d + m = (zAN G r).2.length -> i < q.1.length -> (r, (d : Int)) ∈ clL G (zAI q.1 i) -> (0 < m \/ (r, (d : Int)) ∈ zAI q.1 i) ->
  ∃ j : Nat, j < q.1.length /\ zCz q.1.length q.2 (i : Int) ((zAN G r).2.drop d) = (j : Int) /\ (r, ((zAN G r).2.length : Int)) ∈ zAI q.1 j
 | 0, d, i, e, hi, _, hx => by
  have hx' : (r, (d : Int)) ∈ zAI q.1 i := by
   rcases hx with q | q
   ·omega
   ·exact q
  have hd : d = (zAN G r).2.length := by omega
  refine ⟨i, hi, ?_, by rw [← hd]; exact hx'⟩
  rw [hd, List.drop_length, walk_nil hi]
 | m + 1, d, i, e, hi, hx, _ => by
  have hd : d < (zAN G r).2.length := by omega
  obtain ⟨j, h1, h2, h3⟩ := h.one hv hi hr hd hx
  have hcl : (r, ((d + 1 : Nat) : Int)) ∈ clL G (zAI q.1 j) := ((zFW _ _).2 _).2 (.of h3 ((h.ok.good _ (zBX h1)).2.2 _ h3))
  obtain ⟨k, k1, k2, k3⟩ := Done.way h hv hr m (d + 1) j (by omega) h1 hcl (.inr h3)
  refine ⟨k, k1, ?_, k3⟩
  rw [List.drop_eq_getElem_cons hd, zKm hi, h2]
  exact k2
theorem Done.spells {G : Gram} {q : Whole} (h : Done G q) (hv : checkN G = 0) {i : Nat} (hi : i < q.1.length) {r : Int} (hr : zAW G r = true) (h0 : (zAN G r).2.length ≠ 0) (hx : (r, 0) ∈ clL G (zAI q.1 i)) :
  ∃ j : Nat, j < q.1.length /\ zCz q.1.length q.2 (i : Int) (zAN G r).2 = (j : Int) /\ (r, ((zAN G r).2.length : Int)) ∈ zAI q.1 j :=
 h.way hv hr _ 0 i (Nat.zero_add _) hi hx (.inl (by omega))
def states (q : Whole) : List (List Itm × List (Int × Int)) := q.1.zip q.2
theorem zAg {q : Whole} (h : q.2.length = q.1.length) : (states q).length = q.1.length := by
 unfold states
 rw [List.length_zip, h, Nat.min_self]
theorem zBJ {q : Whole} (h : q.2.length = q.1.length) {i : Nat} (hi : i < q.1.length) : (states q)[i]? = some (zAI q.1 i, q.2.getD i []) := by
 unfold states
 rw [List.getElem?_zip_eq_some]
 have hi2 : i < q.2.length := by omega
 refine ⟨?_, ?_⟩
 ·rw [List.getElem?_eq_getElem hi, zAd hi]
 ·rw [List.getElem?_eq_getElem hi2, List.getD_eq_getElem?_getD, List.getElem?_eq_getElem hi2]
  rfl
theorem zCE.done {G : Gram} {n : Nat} (h : zCE G n) (k : ¬ 2000 < (runs G (top G) n).1.length) : Done G (runs G (top G) n) :=
 ⟨zCn G (top G) n, h.1.resolve_left k⟩
inductive Built (G : Gram) : Int -> List (List Itm × List (Int × Int)) -> Prop
 | bad : checkN G ≠ 0 -> Built G (checkN G) []
 | many {n : Nat} : checkN G = 0 -> zCE G n -> 2000 < (runs G (top G) n).1.length -> Built G 7 []
 | all {n : Nat} : checkN G = 0 -> zCE G n -> ¬ 2000 < (runs G (top G) n).1.length -> Built G 0 (states (runs G (top G) n))
theorem Built.uniq {G : Gram} {e f : Int} {X Y : List (List Itm × List (Int × Int))} (h : Built G e X) (k : Built G f Y) : e = f /\ X = Y := by
 cases h with
 | bad h1 =>
  cases k with
  | bad _ => exact ⟨rfl, rfl⟩
  | many k1 _ _ => exact absurd k1 h1
  | all k1 _ _ => exact absurd k1 h1
 | many h1 h2 h3 =>
  cases k with
  | bad k1 => exact absurd h1 k1
  | many _ _ _ => exact ⟨rfl, rfl⟩
  | all _ k2 k3 =>
   rw [h2.uniq k2] at h3
   exact absurd h3 k3
 | all h1 h2 h3 =>
  cases k with
  | bad k1 => exact absurd h1 k1
  | many _ k2 k3 =>
   rw [h2.uniq k2] at h3
   exact absurd k3 h3
  | all _ k2 _ =>
   rw [h2.uniq k2]
   exact ⟨rfl, rfl⟩
def zDe (G : Gram) (n : Nat) : Prop := ∀ m, m < n -> ¬ Stop (runs G (top G) m)
theorem zDz (G : Gram) : zDe G 0 := fun m h => absurd h (Nat.not_lt_zero m)
theorem zDe.next {G : Gram} {n : Nat} (h : zDe G n) (k : ¬ Stop (runs G (top G) n)) : zDe G (n + 1) := fun m hm => by
 by_cases e : m = n
 ·rw [e]
  exact k
 ·exact h m (by omega)
theorem zDe.stop {G : Gram} {n : Nat} (h : zDe G n) (k : Stop (runs G (top G) n)) : zCE G n := ⟨k, h⟩
theorem zDe.len {G : Gram} {n : Nat} (h : zDe G n) : (runs G (top G) n).2.length = n := zHL fun m hm => by
 have h1 := h m hm
 have h2 := (zCn G (top G) m).le
 unfold Stop at h1
 omega
theorem zDe.round {G : Gram} {n : Nat} (h : zDe G n) (hn : n < (runs G (top G) n).1.length) : runs G (top G) (n + 1) = ((zAV G (clL G (zAI (runs G (top G) n).1 n)) (top G) ((runs G (top G) n).1, [])).1, (runs G (top G) n).2 ++ [(zAV G (clL G (zAI (runs G (top G) n).1 n)) (top G) ((runs G (top G) n).1, [])).2]) := by
 have hl := h.len
 show rnd G (top G) (runs G (top G) n) = _
 have hq : (runs G (top G) n).2.length < (runs G (top G) n).1.length := by omega
 rw [zFl hq, ← zAd hq, hl]
theorem zLp (G : Gram) (c : List Itm) (s : Nat) (p : Half) : p.1.length <= (oneS G c s p).1.length := by
 unfold oneS
 split
 ·exact Nat.le_refl _
 ·dsimp only
  split
  ·exact Nat.le_refl _
  ·rw [List.length_append]
   omega
theorem zFS (G : Gram) (c : List Itm) (p : Half) (n : Nat) : ∀ m, (zAV G c n p).1.length <= (zAV G c (n + m) p).1.length
 | 0 => Nat.le_refl _
 | m + 1 => Nat.le_trans (zFS G c p n m) (zLp G c (n + m + 1) _)
end Au
namespace Au
open Gr (Gram checkN zAN zAW top)
open Im
open It (isIn num zA6 zG8)
def kb (x : Itm) : List Int := [x.1 % 256, x.1 / 256 % 256, x.2 % 256]
def keyL (L : List Itm) : List Int := L.flatMap kb
def keyB (L : List Itm) : ByteArray := strOfNums (keyL L)
def Fit3 (L : List Itm) : Prop := ∀ x ∈ L, (0 <= x.1 /\ x.1 < 65536) /\ 0 <= x.2 /\ x.2 < 256
theorem zDF (x : Itm) : (kb x).length = 3 := rfl
theorem zDG (L : List Itm) : (keyL L).length = L.length * 3 := by
 unfold keyL
 induction L with
 | nil => rfl
 | cons x L ih =>
  rw [List.flatMap_cons, List.length_append, ih, zDF, List.length_cons]
  omega
theorem zJU (L : List Itm) (x : Itm) : keyL (L ++ [x]) = keyL L ++ kb x := by simp [keyL]
theorem zFX (L : List Itm) : ∀ n ∈ keyL L, 0 <= n /\ n < 256 := fun n hn => by
 unfold keyL at hn
 rw [List.mem_flatMap] at hn
 obtain ⟨x, _, h⟩ := hn
 simp only [kb, List.mem_cons, List.not_mem_nil, or_false] at h
 rcases h with rfl | rfl | rfl <;> omega
theorem zOS {x y : Itm} (hx : (0 <= x.1 /\ x.1 < 65536) /\ 0 <= x.2 /\ x.2 < 256) (hy : (0 <= y.1 /\ y.1 < 65536) /\ 0 <= y.2 /\ y.2 < 256) (h : kb x = kb y) : x = y := by
 simp only [kb, List.cons.injEq, and_true] at h
 obtain ⟨x1, x2⟩ := x
 obtain ⟨y1, y2⟩ := y
 dsimp only at *
 exact Prod.ext (by dsimp only; omega) (by dsimp only; omega)
theorem zGv : ∀ {L M : List Itm}, Fit3 L -> Fit3 M -> keyL L = keyL M -> L = M
 | [], [], _, _, _ => rfl
 | [], y :: M, _, _, h => by simp [keyL, kb] at h
 | x :: L, [], _, _, h => by simp [keyL, kb] at h
 | x :: L, y :: M, hL, hM, h => by
  have h' : kb x ++ keyL L = kb y ++ keyL M := by simpa [keyL] using h
  obtain ⟨h1, h2⟩ := List.append_inj h' (by rw [zDF, zDF])
  rw [zOS (hL x (List.mem_cons_self ..)) (hM y (List.mem_cons_self ..)) h1, zGv (fun z hz => hL z (List.mem_cons_of_mem _ hz)) (fun z hz => hM z (List.mem_cons_of_mem _ hz)) h2]
theorem bytes_inj : ∀ {a b : List Int}, (∀ n ∈ a, 0 <= n /\ n < 256) -> (∀ n ∈ b, 0 <= n /\ n < 256) -> (a.map fun n => UInt8.ofNat n.toNat) = (b.map fun n => UInt8.ofNat n.toNat) -> a = b
 | [], [], _, _, _ => rfl
 | [], y :: b, _, _, h => by simp at h
 | x :: a, [], _, _, h => by simp at h
 | x :: a, y :: b, ha, hb, h => by
  simp only [List.map_cons, List.cons.injEq] at h
  have h1 := ha x (List.mem_cons_self ..)
  have h2 := hb y (List.mem_cons_self ..)
  have h3 := congrArg UInt8.toNat h.1
  rw [UInt8.toNat_ofNat', UInt8.toNat_ofNat'] at h3
  rw [show x = y by omega, bytes_inj (fun n hn => ha n (List.mem_cons_of_mem _ hn)) (fun n hn => hb n (List.mem_cons_of_mem _ hn)) h.2]
theorem zGu {L M : List Itm} (hL : Fit3 L) (hM : Fit3 M) (h : keyB L = keyB M) : L = M := by
 unfold keyB at h
 have h' : (strOfNums (keyL L)).data.toList = (strOfNums (keyL M)).data.toList := by rw [h]
 rw [strOfNums_data, strOfNums_data] at h'
 exact zGv hL hM (bytes_inj (zFX L) (zFX M) h')
theorem zJT (L : List Itm) : (keyB L).size = L.length * 3 := by
 unfold keyB
 rw [strOfNums_size, zDG]
def zBZ (ks : List (List Itm)) : List ByteArray := ks.map keyB
theorem zJV {ks : List (List Itm)} {k : List Itm} (hs : ∀ x ∈ ks, Fit3 x) (hk : Fit3 k) : isIn (zBZ ks) (keyB k) = true ↔ k ∈ ks := by
 rw [zA6]
 unfold zBZ
 rw [List.mem_map]
 constructor
 ·rintro ⟨x, hx, e⟩
  rw [← zGu (hs x hx) hk e]
  exact hx
 ·exact fun h => ⟨k, h, rfl⟩
theorem zNH {ks : List (List Itm)} {k : List Itm} (hs : ∀ x ∈ ks, Fit3 x) (hk : Fit3 k) (hn : ks.Nodup) (h : k ∈ ks) : num (zBZ ks) (keyB k) = ks.idxOf k := by
 obtain ⟨hl, e⟩ := zG8 ((zJV hs hk).2 h)
 generalize num (zBZ ks) (keyB k) = n at hl e ⊢
 have hl' : n < ks.length := by simpa [zBZ] using hl
 have e' : keyB ks[n] = keyB k := by simpa [zBZ] using e
 have := zGu (hs _ (List.getElem_mem hl')) hk e'
 rw [← this, hn.idxOf_getElem]
theorem zCS {G : Gram} (hv : checkN G = 0) {x : Itm} (h : zAD G x = true) : (0 <= x.1 /\ x.1 < 65536) /\ 0 <= x.2 /\ x.2 < 256 := by
 obtain ⟨h1, h2, h3, h4⟩ := zBd hv h
 exact ⟨⟨h1, by omega⟩, h3, by omega⟩
def zKU (G : Gram) (s : Int) (x : Itm) : Option Itm := if behB G x = true /\ behV G x = s then some (x.1, x.2 + 1) else none
def zAj (G : Gram) (c : List Itm) (s : Int) : List Itm := c.filterMap (zKU G s)
theorem zMD {G : Gram} {c : List Itm} (h : Srt c) (s : Int) : Is (zAj G c s) (zFC G c s) := by
 refine ⟨?_, fun x => ?_⟩
 ·unfold Srt zAj
  rw [List.pairwise_filterMap]
  refine h.imp fun {a b} hab x hx y hy => ?_
  unfold zKU at hx hy
  split at hx
  ·split at hy
   ·injection hx with hx
    injection hy with hy
    subst hx
    subst hy
    unfold ltP at hab ⊢
    dsimp only
    omega
   ·cases hy
  ·cases hx
 ·unfold zAj
  rw [List.mem_filterMap]
  constructor
  ·rintro ⟨y, hy, e⟩
   unfold zKU at e
   split at e
   ·rename_i q
    injection e with e
    exact ⟨y, hy, q.1, q.2, e.symm⟩
   ·cases e
  ·rintro ⟨y, hy, h1, h2, e⟩
   refine ⟨y, hy, ?_⟩
   unfold zKU
   rw [if_pos ⟨h1, h2⟩, e]
theorem zHN {G : Gram} {c : List Itm} (h : Srt c) (s : Int) : zAj G c s = stL G c s := (zMD h s).uniq (zEm G c s)
theorem zEP (G : Gram) (c : List Itm) (x : Itm) (s : Int) : zAj G (c ++ [x]) s = zAj G c s ++ (if behB G x = true /\ behV G x = s then [(x.1, x.2 + 1)] else []) := by
 unfold zAj
 rw [List.filterMap_append]
 congr 1
 unfold zKU
 by_cases h : behB G x = true /\ behV G x = s
 ·simp [h]
 ·simp [h]
theorem zKX (G : Gram) (c : List Itm) (s : Int) : (zAj G c s).length <= c.length := List.length_filterMap_le _ _
theorem zKT {G : Gram} (hv : checkN G = 0) (c : List Itm) : stL G c 0 = [] := by
 cases e : stL G c 0 with
 | nil => rfl
 | cons x l =>
  have hx : x ∈ stL G c 0 := by rw [e]; exact List.mem_cons_self ..
  obtain ⟨y, _, h1, h2, _⟩ := ((zEm G c 0).2 x).1 hx
  exfalso
  obtain ⟨h3, h4⟩ := zBi.1 h1
  obtain ⟨h5, h6⟩ := zAc.1 h3
  obtain ⟨y1, y2⟩ := y
  dsimp only at *
  obtain ⟨d, rfl⟩ := Int.eq_ofNat_of_zero_le h6.1
  have hr : zAW G y1 = true := by
   unfold zAW
   exact decide_eq_true h5
  have hd : d < (zAN G y1).2.length := by
   unfold rlen at h4
   omega
  have := (zEa hr hd).2
  have := zCY hv hr hd
  omega
def hits (tr : List (Int × Int)) (s : Int) : Option Int := (tr.find? fun x => decide (x.1 = s)).map (·.2)
theorem zJB {tr : List (Int × Int)} {s t : Int} (h : ∀ x ∈ tr, x.1 ≠ s) (z : Int) : hits (tr ++ [(s, t)]) z = if z = s then some t else hits tr z := by
 unfold hits
 rw [List.find?_append]
 by_cases e : z = s
 ·subst e
  rw [if_pos rfl, List.find?_eq_none.2 fun x hx => by simpa using h x hx]
  simp
 ·rw [if_neg e]
  cases tr.find? fun x => decide (x.1 = z) with
  | none => simp [Ne.symm e]
  | some x => simp
theorem zD1 {G : Gram} {ks : List (List Itm)} {c : List Itm} {n i : Nat} : hits (zAU G ks c n) ((i + 1 : Nat) : Int) = if i < n /\ stL G c ((i + 1 : Nat) : Int) ≠ [] then some (ks.idxOf (stL G c ((i + 1 : Nat) : Int)) : Int) else none := by
 unfold hits
 cases hf : (zAU G ks c n).find? fun x => decide (x.1 = ((i + 1 : Nat) : Int)) with
 | none =>
  rw [if_neg]
  ·rfl
  ·rintro ⟨h1, h2⟩
   have hm : ((((i + 1 : Nat) : Int), (ks.idxOf (stL G c ((i + 1 : Nat) : Int)) : Int)) : Int × Int) ∈ zAU G ks c n := zAz.2 ⟨i, h1, rfl, h2, rfl⟩
   have := List.find?_eq_none.1 hf _ hm
   simp at this
 | some x =>
  obtain ⟨s, t⟩ := x
  have hx := List.mem_of_find?_eq_some hf
  have hd : s = ((i + 1 : Nat) : Int) := of_decide_eq_true (List.find?_some (p := fun x : Int × Int => decide (x.1 = ((i + 1 : Nat) : Int))) hf)
  obtain ⟨j, hj, h1, h2, h3⟩ := zAz.1 hx
  obtain rfl : j = i := by omega
  subst hd
  rw [if_pos ⟨hj, h2⟩]
  simp [h3]
theorem zJC {G : Gram} {ks : List (List Itm)} {c : List Itm} {n : Nat} : hits (zAU G ks c n) 0 = none := by
 unfold hits
 cases hf : (zAU G ks c n).find? fun x => decide (x.1 = 0) with
 | none => rfl
 | some x =>
  obtain ⟨s, t⟩ := x
  have hx := List.mem_of_find?_eq_some hf
  have hd : s = 0 := of_decide_eq_true (List.find?_some (p := fun x : Int × Int => decide (x.1 = 0)) hf)
  obtain ⟨j, hj, h1, _, _⟩ := zAz.1 hx
  omega
def tgt (ts : List (List (Int × Int))) (x : Itm) : Option Int := if 0 <= x.1 then hits (ts.getD x.1.toNat []) x.2 else none
theorem zNx (x : Itm) : tgt [] x = none := by
 unfold tgt
 split <;> simp [hits]
theorem zMJ (ts : List (List (Int × Int))) (x : Itm) : tgt (ts ++ [[]]) x = tgt ts x := by
 unfold tgt
 split
 ·rw [List.getD_eq_getElem?_getD, List.getD_eq_getElem?_getD]
  congr 1
  rcases Nat.lt_trichotomy x.1.toNat ts.length with h | h | h
  ·rw [List.getElem?_append_left h]
  ·rw [List.getElem?_append_right (by omega), h, List.getElem?_eq_none (Nat.le_refl _)]
   simp
  ·rw [List.getElem?_eq_none (by simp; omega), List.getElem?_eq_none (by omega)]
 ·rfl
theorem zNy {ts : List (List (Int × Int))} {tr : List (Int × Int)} {s t : Int} (h : ∀ x ∈ tr, x.1 ≠ s) (x : Itm) : tgt (ts ++ [tr ++ [(s, t)]]) x = if x = ((ts.length : Int), s) then some t else tgt (ts ++ [tr]) x := by
 obtain ⟨a, b⟩ := x
 unfold tgt
 dsimp only
 by_cases h0 : 0 <= a
 ·obtain ⟨n, rfl⟩ := Int.eq_ofNat_of_zero_le h0
  rw [if_pos h0, if_pos h0, List.getD_eq_getElem?_getD, List.getD_eq_getElem?_getD, Int.toNat_natCast]
  rcases Nat.lt_trichotomy n ts.length with q | q | q
  ·rw [List.getElem?_append_left q, List.getElem?_append_left q, if_neg]
   intro e
   injection e with e1 e2
   omega
  ·subst q
   rw [List.getElem?_append_right (Nat.le_refl _), List.getElem?_append_right (Nat.le_refl _)]
   simp only [Nat.sub_self, List.getElem?_cons_zero, Option.getD_some]
   rw [zJB h]
   simp
  ·rw [List.getElem?_eq_none (by simp; omega), List.getElem?_eq_none (by simp; omega), if_neg]
   intro e
   injection e with e1 e2
   omega
 ·rw [if_neg h0, if_neg h0, if_neg]
  intro e
  injection e with e1 e2
  omega
def zBb (ts : List (List (Int × Int))) (i : Int) (n : Nat) : List (Int × Int) := (List.range n).filterMap fun (s : Nat) => (tgt ts (i, (s : Int))).map fun t => ((s : Int), t)
theorem zHD (ts : List (List (Int × Int))) (i : Int) (n : Nat) : zBb ts i (n + 1) = zBb ts i n ++ (match tgt ts (i, (n : Int)) with | some t => [((n : Int), t)] | none => []) := by
 unfold zBb
 rw [List.range_succ, List.filterMap_append]
 congr 1
 cases h : tgt ts (i, (n : Int)) with
 | none => simp [h]
 | some t => simp [h]
theorem zHC {ts : List (List (Int × Int))} {i : Int} {n : Nat} {t : Int} (h : tgt ts (i, (n : Int)) = some t) : zBb ts i (n + 1) = zBb ts i n ++ [((n : Int), t)] := by rw [zHD, h]
theorem zEw {ts : List (List (Int × Int))} {i : Int} {n : Nat} (h : tgt ts (i, (n : Int)) = none) : zBb ts i (n + 1) = zBb ts i n := by rw [zHD, h, List.append_nil]
theorem zJy (ts : List (List (Int × Int))) (i : Int) (n : Nat) : (zBb ts i n).length <= n := by
 unfold zBb
 have := List.length_filterMap_le (fun (s : Nat) => (tgt ts (i, (s : Int))).map fun t => ((s : Int), t)) (List.range n)
 rwa [List.length_range] at this
theorem zJx {G : Gram} {q : Whole} (h : WholeOk G (top G) q) {i : Nat} (hi : i < q.2.length) : zBb q.2 (i : Int) (top G + 1) = q.2.getD i [] := by
 have ht := h.trans i hi
 have key : ∀ s : Int, tgt q.2 ((i : Int), s) = hits (zAU G q.1 (clL G (zAI q.1 i)) (top G)) s := fun s => by
  unfold tgt
  dsimp only
  rw [if_pos (Int.natCast_nonneg i), Int.toNat_natCast, ht]
 rw [ht]
 generalize hc : clL G (zAI q.1 i) = c at key
 generalize hm : top G = m at key
 have sub : ∀ n, n <= m -> zBb q.2 (i : Int) (n + 1) = zAU G q.1 c n := fun n => by
  induction n with
  | zero =>
   intro _
   rw [zEw (by rw [key]; exact zJC)]
   rfl
  | succ n ih =>
   intro hn
   rw [zAm, ← ih (by omega)]
   by_cases he : stL G c ((n + 1 : Nat) : Int) = []
   ·rw [if_pos he, List.append_nil, zEw]
    rw [key, zD1, if_neg fun q => q.2 he]
   ·rw [if_neg he, zHC]
    rw [key, zD1, if_pos ⟨by omega, he⟩]
 exact sub m (Nat.le_refl _)
theorem zED (G : Gram) (c : List Itm) (ks : List (List Itm)) : ∀ n, ∀ x ∈ (zAV G c n (ks, [])).2, 1 <= x.1 /\ x.1 <= (n : Int)
 | 0, x, hx => by cases hx
 | n + 1, x, hx => by
  have ih := zED G c ks n
  rw [zA9] at hx
  unfold oneS at hx
  split at hx
  ·have := ih x hx
   omega
  ·rcases List.mem_append.1 hx with q | q
   ·have := ih x q
    omega
   ·rw [List.mem_singleton] at q
    subst q
    dsimp only
    omega
theorem zCQ (G : Gram) (c : List Itm) (ks : List (List Itm)) : ∀ n, (zAV G c n (ks, [])).1.length <= ks.length + n
 | 0 => Nat.le_refl _
 | n + 1 => by
  have ih := zCQ G c ks n
  rw [zA9]
  unfold oneS
  split
  ·omega
  ·dsimp only
   split
   ·omega
   ·rw [List.length_append, List.length_singleton]
    omega
