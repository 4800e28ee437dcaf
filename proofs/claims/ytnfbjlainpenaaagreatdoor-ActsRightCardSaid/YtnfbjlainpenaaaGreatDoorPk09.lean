/- A part of the proof. -/
import Derived.Test.YtnfbjlainpenaaaGreatDoorPk04
import Derived.Test.YtnfbjlainpenaaaGreatDoorPk06
import Derived.Test.YtnfbjlainpenaaaGreatDoorPk07
import Derived.Test.YtnfbjlainpenaaaGreatDoorPk08
set_option maxHeartbeats 2000000
set_option maxRecDepth 100000
set_option linter.unusedVariables false
namespace Go.Proofs.YtnfbjlainpenaaaGreatDoor
namespace Lk
open Gr (Gram checkN zAX zAE zAU ofN nonB zDX zAt zAg zAV zAp zA8 zBA zAb)
open Im
open Au
open Fi (Fst zCS Fol zBh zCu)
def zFU (G : Gram) (x : Itm) : List Int := (zAE G x.1).2.drop (x.2 + 1).toNat
inductive La (G : Gram) (q : Whole) : Nat -> Itm -> Int -> Prop
 | start : La G q 0 ((G.rules.length : Int), 0) 0
 | move {i j : Nat} {x : Itm} {t : Int} : La G q i x t -> behB G x = true -> leads (q.2.getD i []) (behV G x) = (j : Int) -> La G q j (x.1, x.2 + 1) t
 | opens {i r : Nat} {x : Itm} {t u : Int} : La G q i x t -> behB G x = true -> r ∈ ofN G (behV G x) -> zCS G (zFU G x ++ [t]) u -> La G q i ((r : Int), 0) u
theorem zM2 {G : Gram} (hv : checkN G = 0) {t u : Int} (ht : t = 0 \/ zDX G t = true) (h : Fst G t u) : u = t := by
 generalize hx : t = x at h
 cases h with
 | leaf _ => exact hx.symm ▸ rfl
 | rule hr _ _ _ =>
  rename_i r pre y post
  exfalso
  obtain ⟨i, hi, rfl⟩ := List.getElem_of_mem hr
  have h1 := zA8 (zAX hv).2.2.2.1 hi
  rw [zAb hi] at h1
  have h2 := zAV.1 h1
  rw [← hx] at h2
  rcases ht with q | q
  ·omega
  ·have := zAp.1 q
   omega
theorem zA9 {G : Gram} (hv : checkN G = 0) {t : Int} (ht : t = 0 \/ zDX G t = true) : ∀ {l : List Int} {u : Int}, zCS G (l ++ [t]) u ↔ zCS G l u \/ ((∀ z ∈ l, Fi.Can G z) /\ u = t)
 | [], u => by
  rw [List.nil_append, zBh]
  constructor
  ·rintro (h | ⟨_, h⟩)
   ·exact .inr ⟨(fun z hz => by cases hz), zM2 hv ht h⟩
   ·exact absurd h zCu
  ·rintro (h | ⟨_, rfl⟩)
   ·exact absurd h zCu
   ·exact .inl (.leaf ht)
 | y :: l, u => by
  rw [List.cons_append, zBh, zBh, zA9 hv ht]
  constructor
  ·rintro (h | ⟨h, h1 | ⟨h1, h2⟩⟩)
   ·exact .inl (.inl h)
   ·exact .inl (.inr ⟨h, h1⟩)
   ·exact .inr ⟨fun z hz => by
     rcases List.mem_cons.1 hz with e | e
     ·exact e ▸ h
     ·exact h1 z e, h2⟩
  ·rintro ((h | ⟨h, h1⟩) | ⟨h1, h2⟩)
   ·exact .inl h
   ·exact .inr ⟨h, .inl h1⟩
   ·exact .inr ⟨h1 y (List.mem_cons_self ..), .inr ⟨fun z hz => h1 z (List.mem_cons_of_mem _ hz), h2⟩⟩
theorem zD6 {G : Gram} {q : Whole} {i : Nat} {x : Itm} {t : Int} (h : La G q i x t) : t = 0 \/ zDX G t = true := by
 induction h with
 | start => exact .inl rfl
 | move _ _ _ ih => exact ih
 | opens _ _ _ h _ =>
  rename_i u _ _ _ _
  have := Fi.zBi h
  rcases Int.lt_or_eq_of_le this.1 with e | e
  ·exact .inr (zAp.2 ⟨by omega, this.2⟩)
  ·exact .inl e.symm
theorem zCs {G : Gram} {q : Whole} (D : Done G q) (hv : checkN G = 0) {i : Nat} {x : Itm} {t : Int} (h : La G q i x t) : i < q.1.length /\ Clo G (zAH q.1 i) x := by
 induction h with
 | start =>
  refine ⟨D.ok.pos, .of ?_ (zA5 (Nat.le_refl _))⟩
  rw [D.ok.zero]
  exact List.mem_singleton.2 rfl
 | move _ hb hl ih =>
  rename_i i j x t _
  obtain ⟨h1, h2⟩ := ih
  obtain ⟨r, d⟩ := x
  obtain ⟨b1, b2⟩ := zAf.1 hb
  obtain ⟨c1, c2⟩ := zAN.1 b1
  dsimp only at c1 c2 b2
  obtain ⟨d, rfl⟩ := Int.eq_ofNat_of_zero_le c2.1
  have hr : zAU G r = true := by
   unfold zAU
   exact decide_eq_true c1
  have hd : d < (zAE G r).2.length := by
   unfold rlen at b2
   omega
  obtain ⟨k, k1, k2, k3⟩ := D.one hv h1 hr hd (((zEV _ _).2 _).2 h2)
  rw [← (zBN hr hd).2, hl] at k2
  obtain rfl : j = k := by omega
  refine ⟨k1, .of k3 ?_⟩
  exact (D.ok.good _ (zAs k1)).2.2 _ k3
 | opens _ hb hr _ ih => exact ⟨ih.1, .next ih.2 hb hr⟩
theorem zHL {G : Gram} {r : Nat} (hr : r < G.rules.length) {d : Nat} (hd : d < (G.rules[r]).2.length) : (G.rules[r]).2 = (G.rules[r]).2.take d ++ (G.rules[r]).2[d] :: (G.rules[r]).2.drop (d + 1) := by
 rw [← List.drop_eq_getElem_cons hd, List.take_append_drop]
theorem zGA {G : Gram} {q : Whole} (D : Done G q) (hv : checkN G = 0) {i : Nat} {x : Itm} {t : Int} (h : La G q i x t) : (x.1 = (G.rules.length : Int) -> t = 0) /\ ∀ r (hr : r < G.rules.length), x.1 = (r : Int) -> Fol G (G.rules[r]).1 t := by
 induction h with
 | start =>
  refine ⟨fun _ => rfl, fun r hr e => ?_⟩
  dsimp only at e
  omega
 | move _ _ _ ih => exact ih
 | opens h0 hb hr hl ih =>
  rename_i i r x t u
  have hrl := (zBA.1 hr).1
  have hrv := (zBA.1 hr).2
  refine ⟨fun e => by dsimp only at e; omega, fun r' hr' e => ?_⟩
  dsimp only at e
  obtain rfl : r' = r := by omega
  have hleft : (G.rules[r']).1 = behV G x := by
   rw [← zAb hr']
   exact hrv
  rw [hleft]
  obtain ⟨xr, xd⟩ := x
  obtain ⟨b1, b2⟩ := zAf.1 hb
  obtain ⟨c1, c2⟩ := zAN.1 b1
  dsimp only at c1 c2 b2 ih
  obtain ⟨n, rfl⟩ := Int.eq_ofNat_of_zero_le c1.1
  obtain ⟨d, rfl⟩ := Int.eq_ofNat_of_zero_le c2.1
  have hrb : zAU G (n : Int) = true := by
   unfold zAU
   exact decide_eq_true c1
  have hd : d < (zAE G (n : Int)).2.length := by
   unfold rlen at b2
   omega
  have hsym := (zBN hrb hd).2
  have hnon : nonB G (behV G ((n : Int), (d : Int))) = true := by
   rw [← hleft, ← zAb hr']
   exact zA8 (zAX hv).2.2.2.1 hr'
  have hrest : zFU G ((n : Int), (d : Int)) = (zAE G (n : Int)).2.drop (d + 1) := by
   unfold zFU
   dsimp only
   congr 1
  rw [hrest] at hl
  have ht := zD6 h0
  by_cases hn : n < G.rules.length
  ·have e2 : (zAE G (n : Int)).2 = (G.rules[n]).2 := by rw [(zAt hn).2]
   have hd' : d < (G.rules[n]).2.length := by rw [← e2]; exact hd
   have hs : (zAE G (n : Int)).2[d] = (G.rules[n]).2[d] := by simp only [e2]
   rw [e2] at hl
   have hp := zHL hn hd'
   have hx : behV G ((n : Int), (d : Int)) = (G.rules[n]).2[d] := by rw [hsym, hs]
   rw [hx] at hnon ⊢
   rcases (zA9 hv ht).1 hl with q | ⟨q1, rfl⟩
   ·exact .next (List.getElem_mem hn) hp hnon q
   ·exact .last (List.getElem_mem hn) hp hnon q1 (ih.2 n hn rfl)
  ·obtain rfl : n = G.rules.length := by omega
   have e2 : (zAE G ((G.rules.length : Nat) : Int)).2 = [G.start] := by rw [(zAg G).2]
   have hd0 : d = 0 := by rw [e2] at hd; simp at hd; omega
   subst hd0
   have hx : behV G (((G.rules.length : Nat) : Int), ((0 : Nat) : Int)) = G.start := by
    rw [hsym]
    simp only [e2, List.getElem_cons_zero]
   rw [hx]
   rw [e2] at hl
   have h0' := ih.1 rfl
   rcases (zA9 hv ht).1 hl with q | ⟨q1, q2⟩
   ·exact absurd q zCu
   ·rw [q2, h0']
    exact .start
open Classical in
noncomputable def laL (G : Gram) (q : Whole) (i : Nat) (x : Itm) : List Nat := (List.range (G.terms.length + 1)).filter fun t => decide (La G q i x (t : Int))
open Classical in
theorem zLD {G : Gram} {q : Whole} {i : Nat} {x : Itm} {t : Nat} : t ∈ laL G q i x ↔ La G q i x (t : Int) := by
 unfold laL
 rw [List.mem_filter, List.mem_range]
 constructor
 ·exact fun h => of_decide_eq_true h.2
 ·refine fun h => ⟨?_, decide_eq_true h⟩
  rcases zD6 h with e | e
  ·omega
  ·have := (zAp.1 e).2
   omega
def endI (G : Gram) (k : Nat) : Itm := ((k : Int), ((zAE G (k : Int)).2.length : Int))
open Classical in
noncomputable def zAe (G : Gram) (q : Whole) (i : Nat) : List (Nat × List Nat) := ((List.range (G.rules.length + 1)).filter fun k => decide (Clo G (zAH q.1 i) (endI G k))).map fun k => (k, laL G q i (endI G k))
noncomputable def zB1 (G : Gram) (q : Whole) : List (List (Nat × List Nat)) := (List.range q.1.length).map (zAe G q)
theorem zBT (G : Gram) (q : Whole) : (zB1 G q).length = q.1.length := by simp [zB1]
theorem zDy {G : Gram} {L : List Itm} {x : Itm} (h : Clo G L x) : behB G x = false ↔ ∃ k : Nat, k <= G.rules.length /\ x = endI G k := by
 have hr := zAd h
 obtain ⟨⟨h1, h2⟩, h3, h4⟩ := zAN.1 hr
 obtain ⟨r, d⟩ := x
 dsimp only at h1 h2 h3 h4
 obtain ⟨n, rfl⟩ := Int.eq_ofNat_of_zero_le h1
 unfold rlen at h4
 constructor
 ·intro hb
  refine ⟨n, by omega, ?_⟩
  have : ¬ d < ((zAE G (n : Int)).2.length : Int) := fun q => by
   have := zAf.2 ⟨hr, (show ((n : Int), d).2 < (rlen G ((n : Int), d).1 : Int) from by unfold rlen; exact q)⟩
   rw [hb] at this
   cases this
  unfold endI
  exact Prod.ext rfl (by dsimp only; omega)
 ·rintro ⟨k, hk, e⟩
  unfold endI at e
  injection e with e1 e2
  obtain rfl : n = k := by omega
  cases hb : behB G ((n : Int), d) with
  | false => rfl
  | true =>
   have := (zAf.1 hb).2
   unfold rlen at this
   dsimp only at this
   omega
end Lk
namespace Au
open Go.RowKit Go.Maps Go.WideShapes Go.ChangeShapes Go.Joins Go.Deep
open Gr (cell_later)
open Im
abbrev Sta := List Itm × List (Int × Int)
def zGi (a : Option Addr) (i : Nat) (s : Sta) (w : World) : Prop :=
 ∃ b o a1 c1 a2 c2, a = some ⟨b, o, none⟩ /\ w.cell? ⟨b, o + i * 2, none⟩ = some (.slice a1 s.1.length c1) /\ w.cell? ⟨b, o + i * 2 + 1, none⟩ = some (.slice a2 s.2.length c2) /\ ItsA a1 s.1 w /\ ItsA a2 s.2 w /\ s.1.length <= c1 /\ s.2.length <= c2
def StaA (a : Option Addr) (X : List Sta) (w : World) : Prop := ∀ i (h : i < X.length), zGi a i X[i] w
theorem zGi.went {a : Option Addr} {i : Nat} {s : Sta} {w w' : World} (h : zGi a i s w) (hb : Below w.heap.size w w') : zGi a i s w' := by
 obtain ⟨b, o, a1, c1, a2, c2, e, h1, h2, h3, h4, h5, h6⟩ := h
 exact ⟨b, o, a1, c1, a2, c2, e, cell_later hb h1, cell_later hb h2, h3.went hb, h4.went hb, h5, h6⟩
theorem StaA.went {a : Option Addr} {X : List Sta} {w w' : World} (h : StaA a X w) (hb : Below w.heap.size w w') : StaA a X w' := fun i hi => (h i hi).went hb
theorem StaA.nil (a : Option Addr) (w : World) : StaA a [] w := fun i hi => absurd hi (Nat.not_lt_zero i)
end Au
namespace Au
open Go.RowKit Go.Maps
open Gr (boxed cell_later zAl)
open Im
structure Small (X : List Sta) : Prop where
 len : X.length <= 1000000
 items : ∀ s ∈ X, s.1.length <= 1000000
 trans : ∀ s ∈ X, s.2.length <= 1000000
def inB (X : List Sta) (i : Int) : Bool := decide (0 <= i /\ i < (X.length : Int))
def zMF (X : List Sta) (i : Nat) : List (Int × Int) := (X.getD i ([], [])).2
def zDG (X : List Sta) (i s : Int) : Int := if inB X i then leads (zMF X i.toNat) s else -1
theorem zP4 {X : List Sta} {i : Nat} (h : i < X.length) : inB X (i : Int) = true := decide_eq_true ⟨by omega, by omega⟩
theorem zP3 {X : List Sta} {i : Int} : inB X i = true ↔ 0 <= i /\ i < (X.length : Int) := decide_eq_true_iff
theorem zCq {X : List Sta} {i : Nat} (h : i < X.length) (s : Int) : zDG X (i : Int) s = leads X[i].2 s := by
 unfold zDG zMF
 rw [zP4 h, if_pos rfl, Int.toNat_natCast, List.getD_eq_getElem?_getD, List.getElem?_eq_getElem h]
 rfl
theorem zB9 {X : List Sta} {i : Int} (h : inB X i = false) (s : Int) : zDG X i s = -1 := by
 unfold zDG
 rw [h, if_neg Bool.false_ne_true]
def zGf (tr : List (Int × Int)) (s : Int) (k : Nat) : Prop := ∀ j (h : j < tr.length), j < k -> tr[j].1 ≠ s
theorem zEv (tr : List (Int × Int)) (s : Int) : zGf tr s 0 := fun _ _ h => absurd h (by omega)
theorem zEu {tr : List (Int × Int)} {s : Int} {k : Nat} (h : zGf tr s k) (hk : k < tr.length) (e : tr[k].1 ≠ s) : zGf tr s (k + 1) := fun j hj hl => by
 by_cases he : j = k
 ·subst he
  exact e
 ·exact h j hj (by omega)
theorem zGD {tr : List (Int × Int)} {s : Int} {k : Nat} (h : zGf tr s k) (hk : k < tr.length) (e : tr[k].1 = s) : leads tr s = tr[k].2 := by
 unfold leads
 have : tr.find? (fun x => decide (x.1 = s)) = some tr[k] := by
  rw [List.find?_eq_some_iff_getElem]
  exact ⟨decide_eq_true e, k, hk, rfl, fun j hj => by
   have := h j (by omega) hj
   simpa using this⟩
 rw [this]
 rfl
theorem zGC {tr : List (Int × Int)} {s : Int} {k : Nat} (h : zGf tr s k) (hk : ¬ k < tr.length) : leads tr s = -1 := by
 unfold leads
 have : tr.find? (fun x => decide (x.1 = s)) = none := by
  rw [List.find?_eq_none]
  intro x hx
  obtain ⟨j, hj, rfl⟩ := List.mem_iff_getElem.1 hx
  have := h j hj (by omega)
  simpa using this
 rw [this]
 rfl
def zEe (X : List Sta) (i : Int) : List Int -> Int
 | [] => if inB X i then i else -1
 | s :: way => if inB X i then zEe X (zDG X i s) way else -1
theorem zKe (X : List Sta) : inB X (-1) = false := decide_eq_false (fun h => by omega)
theorem zEN {X : List Sta} {i : Int} (h : inB X i = false) (way : List Int) : zEe X i way = -1 := by
 cases way with
 | nil => simp [zEe, h]
 | cons s way => simp [zEe, h]
theorem zJS (X : List Sta) (i s : Int) (way : List Int) : zEe X i (s :: way) = zEe X (zDG X i s) way := by
 cases h : inB X i with
 | true => simp [zEe, h]
 | false => rw [zEN h, zB9 h, zEN (zKe X)]
theorem zML {X : List Sta} {ts : List (List (Int × Int))} (e : ∀ i (h : i < X.length), X[i].2 = ts.getD i []) : ∀ (way : List Int) (i : Int), zDY X.length ts i way = zEe X i way
 | [], i => by
  unfold zDY zEe inB
  by_cases hi : 0 <= i /\ i < (X.length : Int)
  ·rw [if_pos hi, decide_eq_true hi, if_pos rfl]
  ·rw [if_neg hi, decide_eq_false hi, if_neg Bool.false_ne_true]
 | s :: way, i => by
  have hw : zDY X.length ts i (s :: way) = if 0 <= i /\ i < (X.length : Int) then zDY X.length ts (zKW X.length ts i s) way else -1 := rfl
  rw [hw, zJS]
  by_cases hi : 0 <= i /\ i < (X.length : Int)
  ·rw [if_pos hi, zML e way]
   obtain ⟨n, rfl⟩ := Int.eq_ofNat_of_zero_le hi.1
   have hn : n < X.length := by omega
   congr 1
   rw [zCq hn, e n hn]
   unfold zKW
   rw [if_pos hi, Int.toNat_natCast]
  ·rw [if_neg hi, zB9 (decide_eq_false hi), zEN (zKe X)]
theorem zJU (X : List Sta) (a : Option Addr) (c : Nat) (i : Int) (w : World) (hl : X.length <= 1000000) :
  Calls Tryz.prog 97 #[.slice a X.length c, .int .i64 i] w (Gr.Is (.bool (inB X i)) w) := by
 unfold inB
 generalize X.length = n at *
 by_cases h0 : 0 <= i
 ·by_cases h1 : i < (n : Int)
  ·rw [decide_eq_true (p := 0 <= i /\ i < (n : Int)) ⟨h0, h1⟩]
   go_enter Tryz.func97, Tryz.ntmps97
   go_wp2
   go_ret
   exact ⟨rfl, .refl _ _⟩
  ·rw [decide_eq_false (p := 0 <= i /\ i < (n : Int)) (fun q => h1 q.2)]
   go_enter Tryz.func97, Tryz.ntmps97
   go_wp2
   go_ret
   exact ⟨rfl, .refl _ _⟩
 ·rw [decide_eq_false (p := 0 <= i /\ i < (n : Int)) (fun q => h0 q.1)]
  have h2 : i < 0 := by omega
  go_enter Tryz.func97, Tryz.ntmps97
  go_wp2
  go_ret
  exact ⟨rfl, .refl _ _⟩
theorem zFE (X : List Sta) (a : Option Addr) (c : Nat) (i s : Int) (w : World) (hX : StaA a X w) (sm : Small X) :
  Calls Tryz.prog 59 #[.slice a X.length c, .int .i64 i, .int .i64 s] w (Gr.Is (.int .i64 (zDG X i s)) w) := by
 have WI := zSg (fun w1 => zJU X a c i w1 sm.len)
 have hxl := sm.len
 cases hin : inB X i with
 | false =>
  rw [zB9 hin]
  rw [hin] at WI
  clear hX hin
  go_enter Tryz.func59, Tryz.ntmps59
  go_wp2_with (go_at_call 97; refine (WI.out _).mono ?_; rintro e w1 ⟨rfl, hb⟩; have HB := zSg hb; clear hb)
  go_ret
  exact ⟨rfl, HB.out⟩
 | true =>
  rw [hin] at WI
  obtain ⟨h0, h1⟩ := zP3.1 hin
  obtain ⟨k, rfl⟩ := Int.eq_ofNat_of_zero_le h0
  have hk : k < X.length := by omega
  rw [zCq hk]
  obtain ⟨b, o, a1, c1, a2, c2, rfl, z1, z2, i1, i2, l1, l2⟩ := hX k hk
  have TR := zSg (fun w1 (b : Below w.heap.size w w1) => i2.went b)
  have hsm := sm.trans _ (List.getElem_mem hk)
  have Z2 := zSg (fun w1 (b : Below w.heap.size w w1) => cell_later b z2)
  clear hX sm z1 z2 i1 i2 l1 hin h0 h1
  generalize X[k].2 = tr at *
  generalize X.length = n at *
  go_enter Tryz.func59, Tryz.ntmps59
  go_wp2_with (go_at_call 97; refine (WI.out _).mono ?_; rintro e w1 ⟨rfl, hb⟩; have HB := zSg hb; have q2 := Z2.out _ hb; clear hb)
  go_loopw [19] (fun q wr => ∃ j : Nat, q = .int .i64 j /\ j <= tr.length /\ zGf tr s j /\ Below w.heap.size w wr) (fun q _ => tr.length - (intOf q).toNat)
  case atStart => exact ⟨0, rfl, Nat.zero_le _, zEv _ _, HB.out⟩
  case round =>
   obtain ⟨j, rfl, hj, hN, hW⟩ := hrel
   have N := zSg hN
   have HW := zSg hW
   clear hN
   by_cases hlt : j < tr.length
   ·obtain ⟨b2, o2, rfl, p0, p1⟩ := (TR.out wr hW).at j hlt
    have NS := zSg (fun e => zEu N.out hlt e)
    have NH := zSg (fun e => zGD N.out hlt e)
    have e1 : ((tr[j].1, tr[j].2) : Itm) = tr[j] := rfl
    generalize tr[j] = x at *
    obtain ⟨x0, x1⟩ := x
    dsimp only at p0 p1
    clear e1 hW
    have HA := zSg (Gr.step HW.out (boxed wr (.cells #[.int .i64 x0, .int .i64 x1] 98)))
    by_cases he : x0 = s
    ·have E := zSg (NH.out he)
     subst he
     clear NS NH
     go_wp2
     go_ret
     exact ⟨zAl E.out, HA.out⟩
    ·have E := zSg (NS.out he)
     clear NS NH
     go_wp2
     go_roundw
     case rel => exact ⟨j + 1, by go_num, by omega, E.out, HA.out⟩
     case measure => simp [intOf]; omega
   ·have E := zSg (zGC N.out hlt)
    clear hW
    go_wp2
    go_ret
    exact ⟨zAl E.out, HW.out⟩
end Au
namespace Au
open Go.RowKit Go.Maps
open Im
def LOk (Y : List Itm) (u v : Value) (w : World) : Prop := ∃ a c, u = .slice a Y.length c /\ Y.length <= c /\ ItsA a Y w /\ (Y ≠ [] -> ∀ b o, a = some ⟨b, o, none⟩ -> v.ownBlock ≠ some b)
theorem zEq {a : Option Addr} {Y : List Itm} {w : World} (h : ItsA a Y w) (hn : Y ≠ []) {b o : Nat} (e : a = some ⟨b, o, none⟩) : b < w.heap.size := by
 cases Y with
 | nil => exact absurd rfl hn
 | cons y Y =>
  obtain ⟨b', o', e', hc⟩ := h 0 (by rw [zAk]; simp)
  rw [e] at e'
  injection e' with e'
  injection e' with e1 e2
  subst e1
  exact World.block_lt_of_cell? _ _ hc
theorem LOk.to {Y : List Itm} {u v v' : Value} {w w' : World} (h : LOk Y u v w) (hb : ∀ b, b < w.heap.size -> v.ownBlock ≠ some b -> w'.heap[b]? = w.heap[b]?) (hv : ∀ b, b < w.heap.size -> v.ownBlock ≠ some b -> v'.ownBlock ≠ some b) : LOk Y u v' w' := by
 obtain ⟨a, c, h1, h2, h3, h4⟩ := h
 by_cases hn : Y = []
 ·subst hn
  exact ⟨a, c, h1, h2, .nil _ _, fun q => absurd rfl q⟩
 ·exact ⟨a, c, h1, h2, h3.keep fun b o e => hb b (zEq h3 hn e) (h4 hn b o e), fun _ b o e => hv b (zEq h3 hn e) (h4 hn b o e)⟩
theorem LOk.went {Y : List Itm} {u v : Value} {w w' : World} (h : LOk Y u v w) (hb : Below w.heap.size w w') : LOk Y u v w' := h.to (fun b hl _ => hb.block b hl) fun _ _ q => q
theorem LOk.grown {Y : List Itm} {u v v' : Value} {w w' : World} (h : LOk Y u v w) (hg : w.grownBy w' v.ownBlock) (hv : v'.ownBlock = v.ownBlock \/ ∃ n, w.heap.size <= n /\ v'.ownBlock = some n) : LOk Y u v' w' :=
 h.to (fun b hl q => hg.block b hl fun e => q e.symm) fun b hl q e => by
  rcases hv with h1 | ⟨n, hn, h1⟩
  ·exact q (h1.symm.trans e)
  ·rw [h1] at e
   injection e with e
   omega
abbrev StC := Sta × (Value × Value)
def sc (x : StC) : List Value := [x.2.1, x.2.2]
theorem zGV (x : StC) : (sc x).length = 2 := rfl
structure StV (T : TypeId) (base : Nat) (L : List StC) (v : Value) (w : World) : Prop where
 row : w.ownsRow base T 2 v L.length (L.flatMap sc)
 lists : ∀ x ∈ L, LOk x.1.1 x.2.1 v w /\ LOk x.1.2 x.2.2 v w
theorem StV.went {T : TypeId} {base : Nat} {L : List StC} {v : Value} {w w' : World} (h : StV T base L v w) (hb : Below w.heap.size w w') : StV T base L v w' :=
 ⟨Sep.zAD h.row fun g hg => hb.block g (h.row.lt g hg).2, fun x hx => ⟨(h.lists x hx).1.went hb, (h.lists x hx).2.went hb⟩⟩
theorem StV.nil (T : TypeId) (base : Nat) (w : World) : StV T base [] (.slice none 0 0) w := ⟨World.ownsRow_nil _ _ _ _, fun x hx => by cases hx⟩
theorem StV.len {T : TypeId} {base : Nat} {L : List StC} {v : Value} {w : World} (h : StV T base L v w) : ∃ a c, v = .slice a L.length c /\ L.length <= c := by
 rcases h.row.2 with ⟨rfl, h0⟩ | ⟨g, cap, cur, rfl, _, _, h5, _⟩
 ·exact ⟨none, 0, by rw [h0], by rw [h0]; exact Nat.le_refl _⟩
 ·exact ⟨_, cap, rfl, h5⟩
theorem StV.at {T : TypeId} {base : Nat} {L : List StC} {a : Option Addr} {c : Nat} {w : World} (h : StV T base L (.slice a L.length c) w) : StaA a (L.map Prod.fst) w := by
 intro i hi
 have hi' : i < L.length := by simpa using hi
 rcases h.row.2 with ⟨_, h0⟩ | ⟨g, cap, cur, he, _⟩
 ·omega
 ·simp only [Value.slice.injEq] at he
  obtain ⟨rfl, _, _⟩ := he
  have hc := World.ownsRow.cells h.row (g := g) rfl
  obtain ⟨⟨a1, c1, u1, l1, i1, _⟩, ⟨a2, c2, u2, l2, i2, _⟩⟩ := h.lists _ (List.getElem_mem hi')
  have t0 := hc (i * 2 + 0) _ (Rw.zBW sc zGV L i hi' 0 (by omega))
  have t1 := hc (i * 2 + 1) _ (Rw.zBW sc zGV L i hi' 1 (by omega))
  rw [WideShapes.add_plain] at t0 t1
  rw [List.getElem_map]
  refine ⟨g, 0, a1, c1, a2, c2, rfl, ?_, ?_, i1, i2, l1, l2⟩
  ·rw [← u1]
   simpa using t0
  ·rw [← u2]
   simpa using t1
theorem StV.snoc {T : TypeId} {base : Nat} {L : List StC} {v v' : Value} {w w' : World} (h : StV T base L v w) (x : StC) (hx : LOk x.1.1 x.2.1 v w /\ LOk x.1.2 x.2.2 v w) (hr : w'.ownsRow base T 2 v' (L.length + 1) (L.flatMap sc ++ sc x)) (hg : w.grownBy w' v.ownBlock) (hv : v'.ownBlock = v.ownBlock \/ ∃ n, w.heap.size <= n /\ v'.ownBlock = some n) : StV T base (L ++ [x]) v' w' := by
 refine ⟨?_, fun y hy => ?_⟩
 ·rw [List.length_append, List.flatMap_append]
  simpa using hr
 ·have key : LOk y.1.1 y.2.1 v w /\ LOk y.1.2 y.2.2 v w := by
   rcases List.mem_append.1 hy with q | q
   ·exact h.lists y q
   ·rw [List.mem_singleton] at q
    rw [q]
    exact hx
  exact ⟨key.1.grown hg hv, key.2.grown hg hv⟩
end Au
namespace Au
open Go.RowKit Go.Maps
open Gr (cell_later)
open Im
def upd {α : Type} (f : Nat -> α) (s : Nat) (x : α) : Nat -> α := fun r => if r = s then x else f r
theorem upd_same {α : Type} (f : Nat -> α) (s : Nat) (x : α) : upd f s x s = x := if_pos rfl
theorem zAC {α : Type} {f : Nat -> α} {s r : Nat} {x : α} (h : r ≠ s) : upd f s x r = f r := if_neg h
structure Fam (T : TypeId) (b m n : Nat) (F : Nat -> List Itm) (D : Nat -> Value) (w : World) : Prop where
 cell : ∀ s, s < n -> w.cell? ⟨b, s, none⟩ = some (D s)
 free : ∀ s, w.frozen? ⟨b, s, none⟩ = false
 row : ∀ s, s < n -> ItsV T m (F s) (D s) w
 off : ∀ s r, s < n -> r < n -> s ≠ r -> ∀ g, (D s).ownBlock = some g -> (D r).ownBlock ≠ some g
 bm : b < m
 le : m <= w.heap.size
theorem Fam.went {T : TypeId} {b m n : Nat} {F : Nat -> List Itm} {D : Nat -> Value} {w w' : World} (h : Fam T b m n F D w) (hb : Below w.heap.size w w') : Fam T b m n F D w' :=
 have hl : b < w.heap.size := Nat.lt_of_lt_of_le h.bm h.le
 ⟨fun s hs => cell_later hb (h.cell s hs), fun s => (World.frozen?_of_block (a := ⟨b, s, none⟩) (hb.block b hl)).trans (h.free s), fun s hs => (h.row s hs).went hb, h.off, h.bm, Nat.le_trans h.le hb.size⟩
theorem Fam.congr {T : TypeId} {b m n : Nat} {F F' : Nat -> List Itm} {D : Nat -> Value} {w : World} (h : Fam T b m n F D w) (e : ∀ s, s < n -> F s = F' s) : Fam T b m n F' D w :=
 ⟨h.cell, h.free, fun s hs => by rw [← e s hs]; exact h.row s hs, h.off, h.bm, h.le⟩
theorem Fam.put {T : TypeId} {b m n : Nat} {F : Nat -> List Itm} {D : Nat -> Value} {w w' : World} (h : Fam T b m n F D w) {s : Nat} (hs : s < n) {y : Itm} {v' : Value} (hr : ItsV T m (F s ++ [y]) v' w') (hg : w.grownBy w' (D s).ownBlock) (hv : v'.ownBlock = (D s).ownBlock \/ v'.ownBlock = some w.heap.size) :
  Fam T b m n (upd F s (F s ++ [y])) (upd D s v') (w'.setCell ⟨b, s, none⟩ v') := by
 have hl : b < w.heap.size := Nat.lt_of_lt_of_le h.bm h.le
 have own : ∀ r, r < n -> ∀ g, (D r).ownBlock = some g -> m <= g /\ g < w.heap.size := fun r hr g hg => World.ownsRow.lt (h.row r hr) g hg
 have eb : w'.heap[b]? = w.heap[b]? := hg.block b hl fun e => by
  have := (own s hs b e.symm).1
  have := h.bm
  omega
 have own' : ∀ g, v'.ownBlock = some g -> m <= g := fun g hg => (World.ownsRow.lt hr g hg).1
 have other : ∀ g, g ≠ b -> (w'.setCell ⟨b, s, none⟩ v').heap[g]? = w'.heap[g]? := fun g hg => Below.heap_setCell _ _ _ _ hg
 refine ⟨fun r hr' => ?_, fun r => ?_, fun r hr' => ?_, fun r z hr' hq hne g e1 e2 => ?_, h.bm, ?_⟩
 ·by_cases e : r = s
  ·subst e
   rw [upd_same]
   exact World.cell?_setCell_same _ _ _ ((World.cell?_of_block (a := ⟨b, r, none⟩) eb).trans (h.cell r hr'))
  ·rw [zAC e, World.cell?_setCell_other _ _ _ _ (fun q => e (congrArg Addr.off q).symm)]
   exact (World.cell?_of_block (a := ⟨b, r, none⟩) eb).trans (h.cell r hr')
 ·rw [World.frozen?_setCell]
  exact (World.frozen?_of_block (a := ⟨b, r, none⟩) eb).trans (h.free r)
 ·by_cases e : r = s
  ·subst e
   rw [upd_same, upd_same]
   exact hr.keep fun g e => other g (by have := own' g e; have := h.bm; omega)
  ·rw [zAC e, zAC e]
   refine (h.row r hr').keep fun g hg' => ?_
   have h1 := own r hr' g hg'
   rw [other g (by have := h.bm; omega)]
   exact hg.block g h1.2 fun q => h.off r s hr' hs e g hg' q.symm
 ·by_cases er : r = s
  ·subst er
   rw [upd_same] at e1
   rw [zAC (fun q => hne q.symm)] at e2
   rcases hv with k | k
   ·exact h.off r z hr' hq hne g (k ▸ e1) e2
   ·have := (own _ hq g e2).2
    rw [k] at e1
    injection e1 with e1
    omega
  ·rw [zAC er] at e1
   by_cases eq : z = s
   ·subst eq
    rw [upd_same] at e2
    rcases hv with q' | q'
    ·exact h.off r z hr' hq hne g e1 (q' ▸ e2)
    ·have := (own _ hr' g e1).2
     rw [q'] at e2
     injection e2 with e2
     omega
   ·rw [zAC eq] at e2
    exact h.off r z hr' hq hne g e1 e2
 ·rw [show (w'.setCell ⟨b, s, none⟩ v').heap.size = w'.heap.size by simp [World.setCell]]
  exact Nat.le_trans h.le hg.size
theorem Fam.fr {T : TypeId} {b m n : Nat} {F : Nat -> List Itm} {D : Nat -> Value} {w w' : World} {v' : Value} (h : Fam T b m n F D w) {s : Nat} (hs : s < n) (hg : w.grownBy w' (D s).ownBlock) {w0 : World} (f : Sep.Fr (· = b) w0 w) (hm : w0.heap.size <= m) : Sep.Fr (· = b) w0 (w'.setCell ⟨b, s, none⟩ v') :=
 (f.grown hg fun k hk => .inr (Nat.le_trans hm (World.ownsRow.lt (h.row s hs) k hk).1)).setCell _ rfl _
end Au
namespace Lk
open Gr (Gram checkN zAX zAE zAU ofN top zBA zAb zA8 zAt zAg zAV)
open Im
open Au
open Fi (zCS)
def byTo (G : Gram) (s : Int) (m : Nat) : List Nat := (List.range m).filter fun k => (zAE G (k : Int)).1 == s
def byL (G : Gram) (s : Int) : List Nat := byTo G s (G.rules.length + 1)
theorem zMj {G : Gram} {s : Int} {m : Nat} (h : (zAE G (m : Int)).1 = s) : byTo G s (m + 1) = byTo G s m ++ [m] := by
 simp [byTo, List.range_succ, List.filter_append, h]
theorem zJx {G : Gram} {s : Int} {m : Nat} (h : (zAE G (m : Int)).1 ≠ s) : byTo G s (m + 1) = byTo G s m := by
 simp [byTo, List.range_succ, List.filter_append, h]
theorem zHe (G : Gram) (s : Int) (m : Nat) : (byTo G s m).length <= m := by
 unfold byTo
 have := List.length_filter_le (fun k : Nat => (zAE G (k : Int)).1 == s) (List.range m)
 simpa using this
theorem zNi {G : Gram} {s : Int} {m k : Nat} : k ∈ byTo G s m ↔ k < m /\ (zAE G (k : Int)).1 = s := by
 simp [byTo]
theorem zBU {G : Gram} {s : Int} {k : Nat} : k ∈ byL G s ↔ k <= G.rules.length /\ (zAE G (k : Int)).1 = s := by
 unfold byL
 rw [zNi]
 omega
theorem zIe (G : Gram) (s : Int) (m : Nat) : (byTo G s m).Nodup := List.Pairwise.filter _ List.nodup_range
theorem zFm {G : Gram} {s : Int} (hs : s ≠ 0) {k : Nat} : k ∈ byL G s ↔ k ∈ ofN G s := by
 rw [zBU, zBA]
 constructor
 ·rintro ⟨h1, h2⟩
  by_cases e : k = G.rules.length
  ·subst e
   rw [(zAg G).2] at h2
   exact absurd h2.symm hs
  ·have hk : k < G.rules.length := by omega
   rw [(zAt hk).2] at h2
   exact ⟨hk, by rw [zAb hk]; exact h2⟩
 ·rintro ⟨h1, h2⟩
  rw [zAb h1] at h2
  exact ⟨Nat.le_of_lt h1, by rw [(zAt h1).2]; exact h2⟩
theorem zA3 {G : Gram} (hv : checkN G = 0) {k : Nat} (hk : k <= G.rules.length) : (k = G.rules.length /\ (zAE G (k : Int)).1 = 0) \/ (k < G.rules.length /\ (G.terms.length : Int) < (zAE G (k : Int)).1 /\ (zAE G (k : Int)).1 <= (top G : Int)) := by
 by_cases e : k = G.rules.length
 ·exact .inl ⟨e, by rw [e, (zAg G).2]⟩
 ·have hk : k < G.rules.length := by omega
  have h1 := zA8 (zAX hv).2.2.2.1 hk
  rw [zAb hk] at h1
  have := zAV.1 h1
  refine .inr ⟨hk, ?_, ?_⟩
  ·rw [(zAt hk).2]; omega
  ·rw [(zAt hk).2]; unfold top; omega
theorem zHd {G : Gram} (hv : checkN G = 0) {k : Nat} (h : k ∈ byL G 0) : k = G.rules.length := by
 obtain ⟨h1, h2⟩ := zBU.1 h
 rcases zA3 hv h1 with ⟨e, _⟩ | ⟨_, e, _⟩
 ·exact e
 ·omega
def hd (G : Gram) (s : Int) : Itm := ((((byL G s).headD 0 : Nat) : Int), 0)
def rep (G : Gram) (x : Itm) : Itm := if x.2 = 0 then hd G (zAE G x.1).1 else x
theorem zBx {G : Gram} {x : Itm} (h : x.2 ≠ 0) : rep G x = x := if_neg h
theorem zBy {G : Gram} {x : Itm} (h : x.2 = 0) : rep G x = hd G (zAE G x.1).1 := if_pos h
theorem zBq {G : Gram} {k : Nat} (hk : k <= G.rules.length) : (byL G (zAE G (k : Int)).1).headD 0 ∈ byL G (zAE G (k : Int)).1 := by
 have : k ∈ byL G (zAE G (k : Int)).1 := zBU.2 ⟨hk, rfl⟩
 cases h : byL G (zAE G (k : Int)).1 with
 | nil => rw [h] at this; cases this
 | cons a l => exact List.mem_cons_self ..
theorem head_ne {G : Gram} {s : Int} (h : byL G s ≠ []) : (byL G s).headD 0 ∈ byL G s := by
 cases e : byL G s with
 | nil => exact absurd e h
 | cons a l => exact List.mem_cons_self ..
theorem zDk {G : Gram} {s : Int} {r : Nat} (h : r ∈ byL G s) : rep G ((r : Int), 0) = hd G s := by
 rw [zBy rfl, (zBU.1 h).2]
theorem zOv {G : Gram} {s : Int} (h : byL G s ≠ []) : rep G (hd G s) = hd G s := zDk (head_ne h)
theorem zQg {G : Gram} {x : Itm} (h : zAU G x.1 = true) : rep G (rep G x) = rep G x := by
 by_cases e : x.2 = 0
 ·unfold zAU at h
  obtain ⟨h1, h2⟩ := of_decide_eq_true h
  obtain ⟨k, hk⟩ := Int.eq_ofNat_of_zero_le h1
  rw [zBy e]
  refine zOv fun q => ?_
  have := zBq (G := G) (k := k) (by omega)
  rw [← hk, q] at this
  cases this
 ·rw [zBx e, zBx e]
theorem zHp {G : Gram} {s : Int} (h : byL G s ≠ []) : zAJ G (hd G s) = true := zA5 (zBU.1 (head_ne h)).1
theorem zLi {G : Gram} {x : Itm} (h : zAJ G x = true) : zAJ G (rep G x) = true := by
 by_cases e : x.2 = 0
 ·obtain ⟨⟨h1, h2⟩, _⟩ := zAN.1 h
  obtain ⟨k, hk⟩ := Int.eq_ofNat_of_zero_le h1
  rw [zBy e]
  refine zHp fun q => ?_
  have := zBq (G := G) (k := k) (by omega)
  rw [← hk, q] at this
  cases this
 ·rw [zBx e]
  exact h
theorem zHv {G : Gram} {q : Whole} (hv : checkN G = 0) {i : Nat} {x : Itm} {t : Int} (hx : zAU G x.1 = true) : La G q i (rep G x) t ↔ La G q i x t := by
 by_cases e : x.2 = 0
 ·obtain ⟨r, d⟩ := x
  dsimp only at e hx
  subst e
  unfold zAU at hx
  obtain ⟨h1, h2⟩ := of_decide_eq_true hx
  obtain ⟨k, rfl⟩ := Int.eq_ofNat_of_zero_le h1
  have hk : k <= G.rules.length := by omega
  have hm := zBq (G := G) hk
  have e1 : rep G ((k : Int), 0) = ((((byL G (zAE G (k : Int)).1).headD 0 : Nat) : Int), 0) := rfl
  rw [e1]
  generalize (byL G (zAE G (k : Int)).1).headD 0 = k0 at hm
  obtain ⟨m1, m2⟩ := zBU.1 hm
  have key : ∀ a b : Nat, a <= G.rules.length -> b <= G.rules.length -> (zAE G (a : Int)).1 = (zAE G (b : Int)).1 -> La G q i ((a : Int), 0) t -> La G q i ((b : Int), 0) t := by
   intro a b ha hb hab hl
   generalize hy : (((a : Int), (0 : Int)) : Itm) = y at hl
   cases hl with
   | start =>
    injection hy with hy _
    have ea : a = G.rules.length := by omega
    subst ea
    rw [(zAg G).2] at hab
    rcases zA3 hv hb with ⟨e, _⟩ | ⟨_, e, _⟩
    ·subst e; exact .start
    ·omega
   | move h0 hb0 _ =>
    injection hy with _ hy
    have := (zAN.1 (zAf.1 hb0).1).2.1
    omega
   | opens h0 hb0 hr hl =>
    injection hy with hy _
    rename_i r y t0 _
    obtain rfl : a = r := by omega
    obtain ⟨a1, a2⟩ := zBA.1 hr
    rw [zAb a1] at a2
    rw [(zAt a1).2] at hab
    refine .opens h0 hb0 (zBA.2 ?_) hl
    rcases zA3 hv hb with ⟨e, e2⟩ | ⟨e, e2, _⟩
    ·rcases zA3 hv ha with ⟨e3, _⟩ | ⟨e3, e4, _⟩
     ·omega
     ·rw [(zAt a1).2] at e4
      omega
    ·refine ⟨e, ?_⟩
     rw [zAb e]
     rw [(zAt e).2] at hab
     rw [← hab]
     exact a2
  exact ⟨key _ _ m1 hk m2, key _ _ hk m1 m2.symm⟩
 ·rw [zBx e]
def cloL (G : Gram) (K : List Itm) (ss : List Int) : List Itm := K ++ ss.flatMap fun s => (byL G s).map fun k : Nat => (((k : Int), 0) : Itm)
theorem zNj {G : Gram} {K : List Itm} {ss : List Int} {x : Itm} : x ∈ cloL G K ss ↔ x ∈ K \/ ∃ s ∈ ss, ∃ k ∈ byL G s, x = ((k : Int), 0) := by
 unfold cloL
 rw [List.mem_append, List.mem_flatMap]
 constructor
 ·rintro (h | ⟨s, h1, h2⟩)
  ·exact .inl h
  ·obtain ⟨k, h3, h4⟩ := List.mem_map.1 h2
   exact .inr ⟨s, h1, k, h3, h4.symm⟩
 ·rintro (h | ⟨s, h1, k, h2, rfl⟩)
  ·exact .inl h
  ·exact .inr ⟨s, h1, List.mem_map.2 ⟨k, h2, rfl⟩⟩
def zBa (q : Whole) (i : Nat) : List Int := (q.2.getD i []).map Prod.fst
theorem zDh {G : Gram} {q : Whole} (D : Done G q) {i : Nat} (hi : i < q.1.length) {s : Int} : s ∈ zBa q i ↔ ∃ m : Nat, m < top G /\ s = ((m + 1 : Nat) : Int) /\ stL G (clL G (zAH q.1 i)) s ≠ [] := by
 unfold zBa
 have hl : i < q.2.length := by rw [D.all]; exact hi
 rw [D.ok.trans i hl, List.mem_map]
 constructor
 ·rintro ⟨⟨a, b⟩, h, rfl⟩
  obtain ⟨m, h1, rfl, h2, _⟩ := zAn.1 h
  exact ⟨m, h1, rfl, h2⟩
 ·rintro ⟨m, h1, rfl, h2⟩
  exact ⟨_, zAn.2 ⟨m, h1, rfl, h2, rfl⟩, rfl⟩
theorem zDw {G : Gram} {q : Whole} (D : Done G q) (hv : checkN G = 0) {i : Nat} (hi : i < q.1.length) (x : Itm) : x ∈ cloL G (zAH q.1 i) (zBa q i) ↔ Clo G (zAH q.1 i) x := by
 rw [zNj]
 constructor
 ·rintro (h | ⟨s, h1, k, h2, rfl⟩)
  ·exact .of h ((D.ok.good _ (zAs hi)).2.2 _ h)
  ·obtain ⟨m, hm, rfl, hn⟩ := (zDh D hi).1 h1
   obtain ⟨y, hy⟩ := List.exists_mem_of_ne_nil _ hn
   obtain ⟨z, z1, z2, z3, _⟩ := ((zD3 _ _ _).2 y).1 hy
   refine .next (((zEV _ _).2 z).1 z1) z2 ?_
   rw [z3]
   exact (zFm (by omega)).1 h2
 ·intro h
  cases h with
  | of h _ => exact .inl h
  | next hc hb hr =>
   rename_i y r
   refine .inr ?_
   obtain ⟨yr, yd⟩ := y
   obtain ⟨b1, b2⟩ := zAf.1 hb
   obtain ⟨c1, c2⟩ := zAN.1 b1
   dsimp only at c1 c2 b2
   obtain ⟨n, rfl⟩ := Int.eq_ofNat_of_zero_le c1.1
   obtain ⟨d, rfl⟩ := Int.eq_ofNat_of_zero_le c2.1
   have hrb : zAU G (n : Int) = true := by
    unfold zAU
    exact decide_eq_true c1
   have hd : d < (zAE G (n : Int)).2.length := by
    unfold rlen at b2
    omega
   obtain ⟨s1, s2⟩ := zBN hrb hd
   obtain ⟨k1, k2⟩ := zBB hv hrb hd
   obtain ⟨m, hm⟩ := Int.eq_ofNat_of_zero_le (show 0 <= (zAE G (n : Int)).2[d] - 1 by omega)
   have es : behV G ((n : Int), (d : Int)) = ((m + 1 : Nat) : Int) := by rw [s2]; omega
   rw [es] at hr
   refine ⟨((m + 1 : Nat) : Int), (zDh D hi).2 ⟨m, by omega, rfl, fun e => ?_⟩, r, (zFm (by omega)).2 hr, rfl⟩
   have : ((n : Int), ((d : Int) + 1)) ∈ stL G (clL G (zAH q.1 i)) ((m + 1 : Nat) : Int) := ((zD3 _ _ _).2 _).2 ⟨((n : Int), (d : Int)), ((zEV _ _).2 _).2 hc, s1, es, rfl⟩
   rw [e] at this
   cases this
theorem zKD {G : Gram} {q : Whole} (D : Done G q) (hv : checkN G = 0) {i : Nat} (hi : i < q.1.length) {x : Itm} (hx : Clo G (zAH q.1 i) x) (hb : behB G x = true) : ∃ j : Nat, j < q.1.length /\ leads (q.2.getD i []) (behV G x) = (j : Int) /\ (x.1, x.2 + 1) ∈ zAH q.1 j := by
 obtain ⟨yr, yd⟩ := x
 obtain ⟨b1, b2⟩ := zAf.1 hb
 obtain ⟨c1, c2⟩ := zAN.1 b1
 dsimp only at c1 c2 b2
 obtain ⟨n, rfl⟩ := Int.eq_ofNat_of_zero_le c1.1
 obtain ⟨d, rfl⟩ := Int.eq_ofNat_of_zero_le c2.1
 have hrb : zAU G (n : Int) = true := by
  unfold zAU
  exact decide_eq_true c1
 have hd : d < (zAE G (n : Int)).2.length := by
  unfold rlen at b2
  omega
 obtain ⟨j, h1, h2, h3⟩ := D.one hv hi hrb hd (((zEV _ _).2 _).2 hx)
 exact ⟨j, h1, by rw [(zBN hrb hd).2]; exact h2, by simpa using h3⟩
theorem zFz {G : Gram} {q : Whole} (D : Done G q) {j : Nat} (h0 : 0 < j) (hj : j < q.1.length) {y : Itm} (hy : y ∈ zAH q.1 j) : ∃ (i : Nat) (x : Itm), i < q.1.length /\ Clo G (zAH q.1 i) x /\ behB G x = true /\ leads (q.2.getD i []) (behV G x) = (j : Int) /\ y = (x.1, x.2 + 1) := by
 obtain ⟨i, s, h1, h2, h3, h4⟩ := D.ok.early j h0 hj
 rw [h4] at hy
 obtain ⟨x, x1, x2, x3, x4⟩ := ((zD3 _ _ _).2 y).1 hy
 refine ⟨i, x, by omega, ((zEV _ _).2 x).1 x1, x2, ?_, x4⟩
 rw [x3, D.ok.trans i h2]
 have hn : stL G (clL G (zAH q.1 i)) ((s + 1 : Nat) : Int) ≠ [] := fun e => by rw [← h4] at e; exact (D.ok.good _ (zAs hj)).1 e
 rw [zD7 h3 hn]
 congr 1
 rw [← h4, zBH hj]
 exact D.ok.nodup.idxOf_getElem j hj
theorem zBj {α : Type} [DecidableEq α] : ∀ {l M : List α}, l.Nodup -> (∀ x ∈ l, x ∈ M) -> l.length <= M.length
 | [], _, _, _ => Nat.zero_le _
 | x :: l, M, h, k => by
  have h' := List.nodup_cons.1 h
  have hm := k x (List.mem_cons_self ..)
  have := zBj (M := M.erase x) h'.2 fun z hz => (List.mem_erase_of_ne (fun e => h'.1 (by rw [← e]; exact hz))).2 (k z (List.mem_cons_of_mem _ hz))
  rw [List.length_erase_of_mem hm] at this
  have := List.length_pos_of_mem hm
  rw [List.length_cons]
  omega
abbrev Pl := Nat × Itm
structure Way where
 v : Value
 f : Nat -> Bool
 e : Bool
 «to» : Nat
structure Nt where
 pls : List Pl
 D : Nat -> Nat
 E : Nat -> Nat
 Ys : Nat -> List Way
 wv : Nat -> Value
 S : Nat -> Nat -> Bool
 Wt : Nat -> Bool
 qs : List Nat
def Way.Ov (y : Way) : Prop := y.e = true /\ ∀ u, y.f u = false
def Way.In (G : Gram) (x : Itm) (y : Way) : Prop := (y.e = true ↔ ∀ z ∈ zFU G x, Fi.Can G z) /\ ∀ u : Nat, y.f u = true ↔ zCS G (zFU G x) (u : Int)
def zFf (G : Gram) (q : Whole) (pls : List Pl) (i : Nat) (x : Itm) (y : Way) : Prop :=
 (∃ j : Nat, leads (q.2.getD i []) (behV G x) = (j : Int) /\ pls[y.to]? = some (j, (x.1, x.2 + 1)) /\ y.Ov) \/ (byL G (behV G x) ≠ [] /\ pls[y.to]? = some (i, hd G (behV G x)) /\ y.In G x)
structure Lk1 (G : Gram) (q : Whole) (N : Nt) : Prop where
 nd : N.pls.Nodup
 can : ∀ p ∈ N.pls, p.1 < q.1.length /\ rep G p.2 = p.2 /\ zAJ G p.2 = true
 sound : ∀ (k i : Nat) (c : Itm), N.pls[k]? = some (i, c) -> ∀ y ∈ N.Ys k, ∃ x, Clo G (zAH q.1 i) x /\ rep G x = c /\ behB G x = true /\ zFf G q N.pls i x y
def Lkd (G : Gram) (q : Whole) (N : Nt) (i : Nat) (x : Itm) : Prop :=
 behB G x = true -> ∃ k : Nat, N.pls[k]? = some (i, rep G x) /\ (∃ j : Nat, leads (q.2.getD i []) (behV G x) = (j : Int) /\ ∃ y ∈ N.Ys k, N.pls[y.to]? = some (j, (x.1, x.2 + 1)) /\ y.Ov) /\ (byL G (behV G x) ≠ [] -> ∃ y ∈ N.Ys k, N.pls[y.to]? = some (i, hd G (behV G x)) /\ y.In G x)
structure Gro (N M : Nt) : Prop where
 pls : ∀ (k : Nat) (p : Pl), N.pls[k]? = some p -> M.pls[k]? = some p
 ys : ∀ k, k < N.pls.length -> ∀ y ∈ N.Ys k, y ∈ M.Ys k
theorem zAa {α : Type} {l : List α} {k : Nat} {p : α} (h : l[k]? = some p) : k < l.length := by
 rcases Nat.lt_or_ge k l.length with q | q
 ·exact q
 ·rw [List.getElem?_eq_none q] at h
  cases h
theorem Gro.refl (N : Nt) : Gro N N := ⟨fun _ _ h => h, fun _ _ _ h => h⟩
theorem Gro.len {N M : Nt} (h : Gro N M) : N.pls.length <= M.pls.length := by
 rcases Nat.lt_or_ge M.pls.length N.pls.length with q | q
 ·have := h.pls M.pls.length _ (List.getElem?_eq_getElem q)
  rw [List.getElem?_eq_none (Nat.le_refl _)] at this
  cases this
 ·exact q
theorem Gro.trans {N M L : Nt} (h : Gro N M) (k : Gro M L) : Gro N L := ⟨fun a p e => k.pls a p (h.pls a p e), fun a ha y hy => k.ys a (Nat.lt_of_lt_of_le ha h.len) y (h.ys a ha y hy)⟩
theorem Lkd.gro {G : Gram} {q : Whole} {N M : Nt} {i : Nat} {x : Itm} (h : Lkd G q N i x) (g : Gro N M) : Lkd G q M i x := fun hb => by
 obtain ⟨k, h1, ⟨j, h2, y, h3, h4, h5⟩, h6⟩ := h hb
 have hk := zAa h1
 refine ⟨k, g.pls _ _ h1, ⟨j, h2, y, g.ys k hk y h3, g.pls _ _ h4, h5⟩, fun hn => ?_⟩
 obtain ⟨z, z1, z2, z3⟩ := h6 hn
 exact ⟨z, g.ys k hk z z1, g.pls _ _ z2, z3⟩
theorem zFf.gro {G : Gram} {q : Whole} {a b : List Pl} {i : Nat} {x : Itm} {y : Way} (h : zFf G q a i x y) (g : ∀ (k : Nat) (p : Pl), a[k]? = some p -> b[k]? = some p) : zFf G q b i x y := by
 rcases h with ⟨j, h1, h2, h3⟩ | ⟨h1, h2, h3⟩
 ·exact .inl ⟨j, h1, g _ _ h2, h3⟩
 ·exact .inr ⟨h1, g _ _ h2, h3⟩
def Nt.cell (N : Nt) (p : Pl) (d e : Nat) : Nt :=
 { pls := N.pls ++ [p], D := upd N.D N.pls.length d, E := upd N.E N.pls.length e, Ys := upd N.Ys N.pls.length [], wv := upd N.wv N.pls.length (.slice none 0 0), S := upd N.S N.pls.length (fun _ => false), Wt := upd N.Wt N.pls.length false, qs := N.qs }
theorem Nt.cell_gro (N : Nt) (p : Pl) (d e : Nat) : Gro N (N.cell p d e) := by
 refine ⟨fun k r h => ?_, fun k hk y hy => ?_⟩
 ·show (N.pls ++ [p])[k]? = some r
  rw [List.getElem?_append_left (zAa h)]
  exact h
 ·show y ∈ upd N.Ys N.pls.length [] k
  rw [zAC (by omega)]
  exact hy
theorem Lk1.cell {G : Gram} {q : Whole} {N : Nt} (h : Lk1 G q N) {i : Nat} {c : Itm} (hn : (i, c) ∉ N.pls) (hi : i < q.1.length) (hc : rep G c = c) (hr : zAJ G c = true) (d e : Nat) : Lk1 G q (N.cell (i, c) d e) := by
 refine ⟨?_, fun p hp => ?_, fun k j x hk y hy => ?_⟩
 ·show (N.pls ++ [(i, c)]).Nodup
  rw [List.nodup_append]
  refine ⟨h.nd, by simp, fun a ha b hb => ?_⟩
  rw [List.mem_singleton] at hb
  subst hb
  exact fun e => hn (e ▸ ha)
 ·rcases List.mem_append.1 (show p ∈ N.pls ++ [(i, c)] from hp) with k | k
  ·exact h.can p k
  ·rw [List.mem_singleton] at k
   subst k
   exact ⟨hi, hc, hr⟩
 ·have hy' : y ∈ upd N.Ys N.pls.length [] k := hy
  by_cases ek : k = N.pls.length
  ·subst ek
   rw [upd_same] at hy'
   cases hy'
  ·rw [zAC ek] at hy'
   have hk' : (N.pls ++ [(i, c)])[k]? = some (j, x) := hk
   have hl := zAa hk'
   rw [List.length_append] at hl
   simp only [List.length_cons, List.length_nil] at hl
   rw [List.getElem?_append_left (by omega)] at hk'
   obtain ⟨z, z1, z2, z3, z4⟩ := h.sound k j x hk' y hy'
   exact ⟨z, z1, z2, z3, z4.gro fun a p e' => (N.cell_gro (i, c) d e).pls a p e'⟩
def Nt.lead (N : Nt) (k : Nat) (y : Way) (v : Value) : Nt := { N with Ys := upd N.Ys k (N.Ys k ++ [y]), wv := upd N.wv k v }
theorem Nt.lead_gro (N : Nt) (k : Nat) (y : Way) (v : Value) : Gro N (N.lead k y v) := by
 refine ⟨fun _ _ h => h, fun a ha z hz => ?_⟩
 show z ∈ upd N.Ys k (N.Ys k ++ [y]) a
 by_cases e : a = k
 ·subst e
  rw [upd_same]
  exact List.mem_append_left _ hz
 ·rw [zAC e]
  exact hz
theorem Nt.lead_mem (N : Nt) (k : Nat) (y : Way) (v : Value) : y ∈ (N.lead k y v).Ys k := by
 show y ∈ upd N.Ys k (N.Ys k ++ [y]) k
 rw [upd_same]
 exact List.mem_append_right _ (List.mem_singleton.2 rfl)
theorem Lk1.lead {G : Gram} {q : Whole} {N : Nt} (h : Lk1 G q N) {k i : Nat} {x : Itm} (hk : N.pls[k]? = some (i, rep G x)) (hx : Clo G (zAH q.1 i) x) (hb : behB G x = true) {y : Way} (hy : zFf G q N.pls i x y) (v : Value) : Lk1 G q (N.lead k y v) := by
 refine ⟨h.nd, h.can, fun a j c ha z hz => ?_⟩
 have hz' : z ∈ upd N.Ys k (N.Ys k ++ [y]) a := hz
 by_cases e : a = k
 ·subst e
  rw [upd_same] at hz'
  rcases List.mem_append.1 hz' with r | r
  ·exact h.sound a j c ha z r
  ·rw [List.mem_singleton] at r
   subst r
   have ha' : N.pls[a]? = some (j, c) := ha
   rw [hk] at ha'
   injection ha' with ha'
   injection ha' with e1 e2
   subst e1 e2
   exact ⟨x, hx, rfl, hb, hy⟩
 ·rw [zAC e] at hz'
  exact h.sound a j c ha z hz'
theorem Lk1.len {G : Gram} {q : Whole} {N : Nt} (h : Lk1 G q N) {A : List Itm} (hA : ∀ x, zAJ G x = true -> x ∈ A) : N.pls.length <= q.1.length * A.length := by
 have h1 : N.pls.length <= ((List.range q.1.length).flatMap fun i => A.map fun x => ((i, x) : Pl)).length := by
  refine zBj h.nd fun p hp => ?_
  obtain ⟨k1, _, k3⟩ := h.can p hp
  exact List.mem_flatMap.2 ⟨p.1, List.mem_range.2 k1, List.mem_map.2 ⟨p.2, hA _ k3, rfl⟩⟩
 have h2 : ∀ l : List Nat, (l.flatMap fun i => A.map fun x => ((i, x) : Pl)).length = l.length * A.length := fun l => by
  induction l with
  | nil => simp
  | cons a l ih => rw [List.flatMap_cons, List.length_append, ih, List.length_map, List.length_cons, Nat.succ_mul]; omega
 rw [h2, List.length_range] at h1
 exact h1
end Lk
namespace Fi
open Gr (Gram nonB zAp)
def zMR (G : Gram) (n : Nat) : Prop := ∀ r ∈ G.rules, 0 <= r.1 /\ r.1 < (n : Int)
def zO1 (C : Int -> Bool) (F : Int -> Int -> Bool) (m n : Nat) : Nat := zCT C n + zCU F m n
theorem zPI {C : Int -> Bool} {r : Int × List Int} {x : Int} (h : C x = true) : addC C r x = true := by unfold addC; rw [h]; rfl
theorem zGj {C : Int -> Bool} {F : Int -> Int -> Bool} {r : Int × List Int} {x t : Int} (h : F x t = true) : addF C F r x t = true := by unfold addF; rw [h]; rfl
theorem zMZ {C : Int -> Bool} {r : Int × List Int} (h : allC C r.2 = true) : addC C r r.1 = true := by unfold addC; rw [h]; simp
theorem zMa {C : Int -> Bool} {F : Int -> Int -> Bool} {r : Int × List Int} {t : Int} (h : zAW C F r.2 t = true) : addF C F r r.1 t = true := by unfold addF; rw [h]; simp
structure TriedF (G : Gram) (n : Nat) (C0 : Int -> Bool) (F0 : Int -> Int -> Bool) (j : Nat) (C : Int -> Bool) (F : Int -> Int -> Bool) (b : Bool) : Prop where
 snd : Snd G C F
 leaf : Leaf G F
 no : b = false -> (C = C0 /\ F = F0) /\ ∀ i (h : i < G.rules.length), i < j -> Shut C0 F0 G.rules[i]
 yes : b = true -> zO1 C F (G.terms.length + 1) n < zO1 C0 F0 (G.terms.length + 1) n
theorem zQu {G : Gram} {n : Nat} {C : Int -> Bool} {F : Int -> Int -> Bool} (h : Snd G C F) (hl : Leaf G F) : TriedF G n C F 0 C F false := ⟨h, hl, fun _ => ⟨⟨rfl, rfl⟩, fun i _ hi => absurd hi (by omega)⟩, fun h => by cases h⟩
theorem TriedF.all {G : Gram} {n : Nat} {C0 C : Int -> Bool} {F0 F : Int -> Int -> Bool} {j : Nat} (h : TriedF G n C0 F0 j C F false) (hj : ¬ j < G.rules.length) : Just G C F := by
 obtain ⟨⟨e1, e2⟩, e3⟩ := h.no rfl
 refine zKt h.snd h.leaf fun r hr => ?_
 obtain ⟨i, hi, rfl⟩ := List.getElem_of_mem hr
 rw [e1, e2]
 exact e3 i hi (by omega)
def zFb : Int -> Bool := fun _ => false
def zCG (G : Gram) : Int -> Int -> Bool := fun x t => decide (x = t /\ 0 <= x /\ x <= (G.terms.length : Int))
theorem snd0 (G : Gram) : Snd G zFb (zCG G) := by
 refine ⟨(fun x h => by cases h), fun x t h => ?_⟩
 unfold zCG at h
 rw [decide_eq_true_iff] at h
 obtain ⟨rfl, h1, h2⟩ := h
 exact .leaf (by rw [zAp]; omega)
theorem zSV (G : Gram) : Leaf G (zCG G) := fun x hx => by
 unfold zCG
 rw [decide_eq_true_iff]
 rw [zAp] at hx
 omega
def behP (C : Int -> Bool) (F B : Int -> Int -> Bool) (r : Int × List Int) (k : Nat) (t : Int) : Bool := zAW C F (r.2.drop (k + 1)) t || (allC C (r.2.drop (k + 1)) && B r.1 t)
def addB (C : Int -> Bool) (F B : Int -> Int -> Bool) (r : Int × List Int) (k : Nat) (x : Int) : Int -> Int -> Bool := fun y t => B y t || (decide (y = x) && behP C F B r k t)
def zPC (G : Gram) (C : Int -> Bool) (F B : Int -> Int -> Bool) (r : Int × List Int) (k : Nat) : Prop := ∀ hk : k < r.2.length, nonB G r.2[k] = true -> ∀ t, behP C F B r k t = true -> B r.2[k] t = true
theorem zMi {G : Gram} {C : Int -> Bool} {F B : Int -> Int -> Bool} {r : Int × List Int} (h : ∀ k, zPC G C F B r k) : zQ2 G C F B r := fun pre x post e hn => by
 have hl : pre.length < r.2.length := by rw [e, List.length_append, List.length_cons]; omega
 have hx : r.2[pre.length] = x := by
  have : r.2[pre.length]? = some x := by rw [e]; simp
  rw [List.getElem?_eq_getElem hl] at this
  injection this
 have hd : r.2.drop (pre.length + 1) = post := by
  rw [e, ← List.drop_drop, List.drop_left]
  rfl
 have hp := h pre.length hl (by rw [hx]; exact hn)
 rw [hx] at hp
 unfold behP at hp
 rw [hd] at hp
 exact ⟨fun t ht => hp t (by rw [ht]; rfl), fun ha t ht => hp t (by rw [ha, ht]; simp)⟩
theorem zJs {G : Gram} {C : Int -> Bool} {F B : Int -> Int -> Bool} (j : Just G C F) (hb : BSnd G B) {r : Int × List Int} (hr : r ∈ G.rules) {k : Nat} (hk : k < r.2.length) (hn : nonB G r.2[k] = true) {t : Int} (h : behP C F B r k t = true) : Fol G r.2[k] t := by
 have e : r.2 = r.2.take k ++ r.2[k] :: r.2.drop (k + 1) := by
  rw [← List.drop_eq_getElem_cons hk, List.take_append_drop]
 unfold behP at h
 rw [Bool.or_eq_true, Bool.and_eq_true] at h
 rcases h with h | ⟨h1, h2⟩
 ·exact .next hr e hn ((j.line _ _).1 h)
 ·exact .last hr e hn ((j.all _).1 h1) (hb.fol _ _ h2)
structure TriedB (G : Gram) (n : Nat) (C : Int -> Bool) (F B0 : Int -> Int -> Bool) (j k : Nat) (B : Int -> Int -> Bool) (b : Bool) : Prop where
 snd : BSnd G B
 start : B G.start 0 = true
 no : b = false -> B = B0 /\ (∀ i (h : i < G.rules.length), i < j -> ∀ l, zPC G C F B0 G.rules[i] l) /\ ∀ h : j < G.rules.length, ∀ l, l < k -> zPC G C F B0 G.rules[j] l
 yes : b = true -> zCU B (G.terms.length + 1) n < zCU B0 (G.terms.length + 1) n
theorem zHS {G : Gram} {n : Nat} {C : Int -> Bool} {F B : Int -> Int -> Bool} (h : BSnd G B) (h0 : B G.start 0 = true) : TriedB G n C F B 0 0 B false :=
 ⟨h, h0, fun _ => ⟨rfl, (fun i _ hi => absurd hi (by omega)), fun _ l hl => absurd hl (by omega)⟩, fun h => by cases h⟩
theorem TriedB.skip {G : Gram} {n : Nat} {C : Int -> Bool} {F B0 B : Int -> Int -> Bool} {j k : Nat} {b : Bool} (h : TriedB G n C F B0 j k B b) (hj : j < G.rules.length) (hs : ∀ hk : k < G.rules[j].2.length, nonB G G.rules[j].2[k] = false) : TriedB G n C F B0 j (k + 1) B b := by
 refine ⟨h.snd, h.start, fun e => ?_, h.yes⟩
 obtain ⟨e1, e2, e3⟩ := h.no e
 refine ⟨e1, e2, fun hj l hl => ?_⟩
 by_cases he : l = k
 ·subst he
  exact fun hk hn => by rw [hs hk] at hn; cases hn
 ·exact e3 hj l (by omega)
theorem TriedB.step {G : Gram} {n : Nat} {C : Int -> Bool} {F B0 B : Int -> Int -> Bool} {j k : Nat} {b c : Bool} (h : TriedB G n C F B0 j k B b) (hJ : Just G C F) (hj : j < G.rules.length) (hk : k < G.rules[j].2.length) (hn : nonB G G.rules[j].2[k] = true)
  (h0 : 0 <= G.rules[j].2[k]) (h1 : G.rules[j].2[k] < (n : Int)) (hc : c = true ↔ ∃ t, behP C F B G.rules[j] k t = true /\ B G.rules[j].2[k] t = false) :
  TriedB G n C F B0 j (k + 1) (addB C F B G.rules[j] k G.rules[j].2[k]) (b || c) := by
 have hm := List.getElem_mem hj
 have hbs : BSnd G (addB C F B G.rules[j] k G.rules[j].2[k]) := h.snd.put fun t ht => zJs hJ h.snd hm hk hn ht
 have le : ∀ {x t : Int}, B x t = true -> addB C F B G.rules[j] k G.rules[j].2[k] x t = true := fun {x t} e => by unfold addB; rw [e]; rfl
 cases c with
 | false =>
  have hsh : ∀ t, behP C F B G.rules[j] k t = true -> B G.rules[j].2[k] t = true := fun t ht => by
   cases e : B G.rules[j].2[k] t with
   | true => rfl
   | false => have := hc.2 ⟨t, ht, e⟩; cases this
  have same : addB C F B G.rules[j] k G.rules[j].2[k] = B := by
   funext x t
   unfold addB
   by_cases e : x = G.rules[j].2[k]
   ·subst e
    cases ha : behP C F B G.rules[j] k t with
    | false => simp
    | true => simp [hsh t ha]
   ·simp [e]
  rw [same, Bool.or_false]
  refine ⟨h.snd, h.start, fun e => ?_, h.yes⟩
  obtain ⟨e1, e2, e3⟩ := h.no e
  refine ⟨e1, e2, fun hj' l hl => ?_⟩
  by_cases he : l = k
  ·subst he
   rw [← e1]
   exact fun _ _ t ht => hsh t ht
  ·exact e3 hj' l (by omega)
 | true =>
  obtain ⟨t, h2, h3⟩ := hc.1 rfl
  obtain ⟨t0, t1⟩ := zKM (zJs hJ h.snd hm hk hn h2)
  have et : ((t.toNat : Nat) : Int) = t := by omega
  have ex : ((G.rules[j].2[k].toNat : Nat) : Int) = G.rules[j].2[k] := by omega
  have hg : zCU (addB C F B G.rules[j] k G.rules[j].2[k]) (G.terms.length + 1) n < zCU B (G.terms.length + 1) n :=
   zH0 (k := G.rules[j].2[k].toNat) (fun x t _ _ e => le e) (by omega)
    (zFP (k := t.toNat) (fun i _ e => le e) (by omega) (by rw [ex, et]; exact h3) (by rw [ex, et]; unfold addB; rw [h2]; simp))
  rw [Bool.or_true]
  refine ⟨hbs, le h.start, (fun e => by cases e), fun _ => ?_⟩
  cases b with
  | false =>
   have e1 := (h.no rfl).1
   rw [e1] at hg ⊢
   exact hg
  | true => exact Nat.lt_trans hg (h.yes rfl)
theorem TriedB.next {G : Gram} {n : Nat} {C : Int -> Bool} {F B0 B : Int -> Int -> Bool} {j k : Nat} {b : Bool} (h : TriedB G n C F B0 j k B b) (hj : j < G.rules.length) (hk : ¬ k < G.rules[j].2.length) : TriedB G n C F B0 (j + 1) 0 B b := by
 refine ⟨h.snd, h.start, fun e => ?_, h.yes⟩
 obtain ⟨e1, e2, e3⟩ := h.no e
 refine ⟨e1, fun i hi hl l => ?_, fun _ l hl => absurd hl (by omega)⟩
 by_cases he : i = j
 ·subst he
  by_cases hlk : l < k
  ·exact e3 hi l hlk
  ·exact fun hl2 => absurd hl2 (by omega)
 ·exact e2 i hi (by omega) l
theorem TriedB.all {G : Gram} {n : Nat} {C : Int -> Bool} {F B0 B : Int -> Int -> Bool} {j k : Nat} (h : TriedB G n C F B0 j k B false) (hJ : Just G C F) (hj : ¬ j < G.rules.length) : ∀ x t, B x t = true ↔ Fol G x t := by
 obtain ⟨e1, e2, _⟩ := h.no rfl
 refine zJt hJ h.snd h.start fun r hr => ?_
 obtain ⟨i, hi, rfl⟩ := List.getElem_of_mem hr
 rw [e1]
 exact zMi fun l => e2 i hi (by omega) l
def zB4 (G : Gram) : Int -> Int -> Bool := fun x t => decide (x = G.start /\ t = 0)
theorem zSC (G : Gram) : BSnd G (zB4 G) /\ zB4 G G.start 0 = true := by
 refine ⟨⟨fun x t h => ?_⟩, by simp [zB4]⟩
 unfold zB4 at h
 rw [decide_eq_true_iff] at h
 obtain ⟨rfl, rfl⟩ := h
 exact .start
