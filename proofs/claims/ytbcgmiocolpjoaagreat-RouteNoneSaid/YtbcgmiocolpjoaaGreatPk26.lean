/- A part of the proof. -/
import Derived.Test.YtbcgmiocolpjoaaGreatPk25
import Derived.Test.YtbcgmiocolpjoaaGreatPk14
set_option maxHeartbeats 16000000
set_option maxRecDepth 100000
set_option linter.unusedVariables false
namespace Go.Proofs.YtbcgmiocolpjoaaGreat
namespace Le
open Gr (Gram nonB zBS checkN zAR)
structure Inv (G : Gram) (T : Int -> Ans) : Prop where
 ok : OkS G 4096 T
 zero : T 0 = .is []
 term : ∀ s, zBS G s = true -> T s = .is [s]
theorem zGr (G : Gram) : Inv G (tab0 G) :=
 ⟨zNU (by omega), by unfold tab0; rw [if_pos rfl], fun s h => by have := zAR.1 h; unfold tab0; rw [if_neg (by omega), if_pos h]⟩
theorem Inv.set {G : Gram} {T : Int -> Ans} (h : Inv G T) {r : Int × List Int} (hr : r ∈ G.rules) (hn : nonB G r.1 = true) : Inv G (setA T r.1 (J T r.2)) :=
 ⟨h.ok.set hr, (zGt hn (Or.inl rfl)).trans h.zero, fun s hs => (zGt hn (Or.inr hs)).trans (h.term s hs)⟩
structure Tried (G : Gram) (n : Nat) (T0 : Int -> Ans) (j : Nat) (T : Int -> Ans) (b : Bool) : Prop where
 inv : Inv G T
 no : b = false -> T = T0 /\ ∀ i (h : i < G.rules.length), i < j -> zAQ (J T0 G.rules[i].2) (T0 G.rules[i].1) = false
 yes : b = true -> zB8 G 4096 T n < zB8 G 4096 T0 n
theorem zES {G : Gram} {n : Nat} {T : Int -> Ans} (h : Inv G T) : Tried G n T 0 T false := ⟨h, fun _ => ⟨rfl, fun i _ hi => absurd hi (by omega)⟩, fun h => by cases h⟩
theorem Tried.skip {G : Gram} {n : Nat} {T0 T : Int -> Ans} {j : Nat} {b : Bool} (h : Tried G n T0 j T b) (hj : j < G.rules.length) (hb : zAQ (J T G.rules[j].2) (T G.rules[j].1) = false) : Tried G n T0 (j + 1) T b := by
 refine ⟨h.inv, fun e => ?_, h.yes⟩
 obtain ⟨e1, e2⟩ := h.no e
 refine ⟨e1, fun i hi hl => ?_⟩
 by_cases he : i = j
 ·subst he
  rw [← e1]
  exact hb
 ·exact e2 i hi (by omega)
theorem Tried.put {G : Gram} {n : Nat} {T0 T : Int -> Ans} {j : Nat} {b : Bool} (h : Tried G n T0 j T b) (hj : j < G.rules.length) (hn : nonB G G.rules[j].1 = true) (h0 : 0 <= G.rules[j].1) (h1 : G.rules[j].1 < (n : Int))
  (hb : zAQ (J T G.rules[j].2) (T G.rules[j].1) = true) : Tried G n T0 (j + 1) (setA T G.rules[j].1 (J T G.rules[j].2)) true := by
 have hm := List.getElem_mem hj
 refine ⟨h.inv.set hm hn, (fun e => by cases e), fun _ => ?_⟩
 have hl : zB8 G 4096 (setA T G.rules[j].1 (J T G.rules[j].2)) n < zB8 G 4096 T n := zLS h.inv.ok hm h0 h1 hb
 cases b with
 | false =>
  have e1 := (h.no rfl).1
  rw [e1] at hl ⊢
  exact hl
 | true => exact Nat.lt_trans hl (h.yes rfl)
structure Passed (G : Gram) (n : Nat) (T0 : Int -> Ans) (T : Int -> Ans) (b : Bool) : Prop where
 inv : Inv G T
 no : b = false -> Cls G 4096 T
 yes : b = true -> zB8 G 4096 T n < zB8 G 4096 T0 n
theorem Tried.all {G : Gram} {n : Nat} {T0 T : Int -> Ans} {j : Nat} {b : Bool} (h : Tried G n T0 j T b) (hj : ¬ j < G.rules.length) : Passed G n T0 T b := by
 refine ⟨h.inv, fun e => ?_, h.yes⟩
 obtain ⟨e1, e2⟩ := h.no e
 refine ⟨h.inv.zero, h.inv.term, fun r hr => ?_⟩
 obtain ⟨i, hi, rfl⟩ := List.getElem_of_mem hr
 rw [e1]
 exact e2 i hi (by omega)
noncomputable def zD8 (G : Gram) : Int -> Ans := @dite _ (∃ T, OkS G 4096 T /\ Cls G 4096 T) (Classical.propDecidable _) (fun h => h.choose) (fun _ _ => .none)
theorem zEo {G : Gram} {T : Int -> Ans} (ok : OkS G 4096 T) (c : Cls G 4096 T) : T = zD8 G := by
 have h : ∃ T, OkS G 4096 T /\ Cls G 4096 T := ⟨T, ok, c⟩
 have e : zD8 G = h.choose := by unfold zD8; exact dif_pos h
 rw [e]
 funext s
 exact c.unique ok h.choose_spec.1 h.choose_spec.2 s
noncomputable def ansT (G : Gram) : Int -> Ans := if checkN G = 0 then zD8 G else fun _ => .none
noncomputable def nilB (G : Gram) : Bool := !decide (checkN G = 0)
end Le
namespace Ro
open Go.RowKit Go.Maps
open Gr (Gram top ivs)
open Le (Ans ansT nilB zA3 zAC isA Bd zA1 zEZ)
open Im
open Au
def lenO : Option Whole -> Nat
 | none => 0
 | some q => q.1.length
open Classical in
noncomputable def wayO (G : Gram) (o : Option Whole) (i : Int) : Option (List Int) :=
 if h : ∃ (W : List Int) (q : Whole) (n : Nat), o = some q /\ i = (n : Int) /\ n < q.1.length /\ zCC (top G) q W n then some h.choose else none
theorem zCa {G : Gram} {q : Whole} {n : Nat} {W : List Int} (hs : Syms (top G) q) (hn : n < q.1.length) (hL : zCC (top G) q W n) : wayO G (some q) (n : Int) = some W := by
 have h : ∃ (V : List Int) (q' : Whole) (m : Nat), some q = some q' /\ (n : Int) = (m : Int) /\ m < q'.1.length /\ zCC (top G) q' V m := ⟨W, q, n, rfl, rfl, hn, hL⟩
 unfold wayO
 rw [dif_pos h]
 congr 1
 obtain ⟨q', m, e1, e2, e3, e4⟩ := h.choose_spec
 injection e1 with e1
 subst e1
 obtain rfl : n = m := by omega
 exact e4.uniq hs hL
theorem zC6 {G : Gram} {q : Whole} {i : Int} (h : ¬ (0 <= i /\ i < (q.1.length : Int))) : wayO G (some q) i = none := by
 unfold wayO
 rw [dif_neg]
 rintro ⟨W, q', n, e1, rfl, h2, _⟩
 injection e1 with e1
 subst e1
 exact h ⟨by omega, by omega⟩
theorem zBw (G : Gram) (i : Int) : wayO G none i = none := by
 unfold wayO
 rw [dif_neg]
 rintro ⟨W, q', n, e1, _⟩
 cases e1
noncomputable def zAw (G : Gram) (o : Option Whole) (i : Int) : Ans :=
 match wayO G o i with
 | none => .none
 | some W => zA3 (nilB G) (ansT G) W
theorem zMn (nl : Bool) (T : Int -> Ans) (l : List Int) : Bd (zA3 nl T l) := by
 unfold zA3
 split
 ·exact zEZ
 ·exact zA1 T l
theorem zMo {a : Ans} (h : Bd a) : (zAC a).length <= 4096 := by
 cases a with
 | is x => exact h x rfl
 | none => exact Nat.zero_le _
 | far => exact Nat.zero_le _
theorem zC2 (G : Gram) (o : Option Whole) (i : Int) : (zAC (zAw G o i)).length <= 4096 := by
 unfold zAw
 cases wayO G o i with
 | none => exact Nat.zero_le _
 | some W => exact zMo (zMn _ _ _)
theorem zHw {G : Gram} {o : Option Whole} {i : Int} {W : List Int} (h : wayO G o i = some W) : zAw G o i = zA3 (nilB G) (ansT G) W := by
 unfold zAw
 rw [h]
theorem zCh {G : Gram} {o : Option Whole} {i : Int} (h : wayO G o i = none) : zAw G o i = .none := by
 unfold zAw
 rw [h]
def witA (a : Ans) (t : Int) : List Int := if isA a = true then (if t = 0 then zAC a else zAC a ++ [t]) else []
theorem zN5 {a : Ans} (t : Int) (h : (zAC a).length <= 4096) : (witA a t).length <= 4097 := by
 unfold witA
 split
 ·split
  ·omega
  ·rw [List.length_append, List.length_singleton]
   omega
 ·exact Nat.zero_le _
theorem zKr {a : Ans} (t : Int) (h : isA a = false) : witA a t = [] := if_neg (by rw [h]; decide)
theorem zFv {a : Ans} : witA a 0 = zAC a := by
 unfold witA
 cases a <;> rfl
theorem zFu {a : Ans} {t : Int} (h : isA a = true) (ht : t ≠ 0) : witA a t = zAC a ++ [t] := by
 unfold witA
 rw [if_pos h, if_neg ht]
theorem zKs {a : Ans} (h : isA a = false) : zAC a = [] := by
 cases a with
 | is x => cases h
 | none => rfl
 | far => rfl
def Two (X : List Int) (b : Bool) (w : World) (e : Ending) (w' : World) : Prop :=
 ∃ ad c, e = .returned (.tuple #[.slice ad X.length c, .bool b]) /\ Sep.Reads ad (ivs X) w' /\ Below w.heap.size w w'
theorem Two.of {X Y : List Int} {b d : Bool} {w : World} {e : Ending} {w' : World} (h : Two X b w e w') (e1 : X = Y) (e2 : b = d) : Two Y d w e w' := by
 subst e1 e2
 exact h
theorem zBL (w w' : World) (h : Below w.heap.size w w') : Two [] false w (.returned (.tuple #[.slice none 0 0, .bool false])) w' := ⟨none, 0, rfl, Sep.Reads.nil _ _, h⟩
noncomputable def wayL (G : Gram) (o : Option Whole) (i : Int) : List Int := (wayO G o i).getD []
noncomputable def wayB (G : Gram) (o : Option Whole) (i : Int) : Bool := (wayO G o i).isSome
end Ro
namespace Ro
open Go.RowKit Go.Maps
open Gr (Is step ivs zAs zAA)
open Le (zAy lexB zAp zBs zBr zCW zJc zEt zAP)
theorem zGy : ∀ a b : List Int, lexB a b = lexI a b
 | [], _ => by cases ‹List Int› <;> rfl
 | _ :: _, [] => rfl
 | x :: a, y :: b => by
  show (if x = y then lexB a b else decide (x < y)) = if x = y then lexI a b else decide (x < y)
  rw [zGy a b]
theorem zFa (a b : List Int) : zAy a b = zDk a b := by
 unfold zAy zDk
 rw [zGy]
theorem zLU (X Y : List Int) (a b : Option Addr) (c d : Nat) (w : World) (hX : Sep.Reads a (ivs X) w) (hY : Sep.Reads b (ivs Y) w) (hm : X.length <= 100000) (hm2 : Y.length <= 100000) :
  Calls Tryz.prog 25 #[.slice a X.length c, .slice b Y.length d] w (Is (.bool (zAy X Y)) w) := by
 by_cases hl : X.length = Y.length
 ·have HX := zPB (fun w1 (bb : Below w.heap.size w w1) => Sep.Reads.below hX bb (Nat.le_refl _))
  have HY := zPB (fun w1 (bb : Below w.heap.size w w1) => Sep.Reads.below hY bb (Nat.le_refl _))
  have HL := zPB hl
  have E := zPB (show zAy X Y = lexB X Y from if_pos hl)
  rw [E.out, ← hl]
  clear hX hY hl E hm2
  go_enter Tryz.func25, Tryz.ntmps25
  go_wp2
  go_loopw [5] (fun i wr => ∃ k : Nat, k <= X.length /\ i = .int .i64 k /\ zAp X Y k /\ Below w.heap.size w wr) (fun i _ => X.length - (intOf i).toNat)
  case atStart => exact ⟨0, Nat.zero_le _, rfl, zBs _ _, .refl _ _⟩
  case round =>
   obtain ⟨k, hk, rfl, hS, hB⟩ := hrel
   have S := zPB hS
   have B := zPB hB
   clear hS hB
   by_cases hlt : k < X.length
   ·have hlt2 : k < Y.length := by rw [← HL.out]; exact hlt
    obtain ⟨b1, o1, e1, hc1⟩ := zAs (HX.out _ B.out) hlt
    obtain ⟨b2, o2, e2, hc2⟩ := zAs (HY.out _ B.out) hlt2
    have NS := zPB (fun he => zBr S.out hlt hlt2 he)
    have NE := zPB (fun he => zJc S.out hlt hlt2 he)
    generalize X[k] = x at *
    generalize Y[k] = y at *
    subst e1 e2
    have i0 : (0 : Int) <= (k : Int) := by omega
    have i1 : (k : Int) < (X.length : Int) := by omega
    by_cases hxy : x = y
    ·have S2 := zPB (NS.out hxy)
     have hb : (x != y) = false := by simpa using hxy
     clear hxy NS NE hlt2
     go_wp2
     go_quiet (fail)
     go_wp2
     go_roundw
     case rel => exact ⟨k + 1, by omega, by go_num, S2.out, Gr.step B.out (zAP _ _)⟩
     case measure => simp [intOf]; omega
    ·have E := zPB (NE.out hxy)
     have hb : (x != y) = true := by simpa using hxy
     clear hxy NS NE hlt2
     go_wp2
     go_quiet (fail)
     go_wp2
     go_quiet (fail)
     go_wp2
     go_ret
     exact ⟨zAA E.out, Gr.step B.out (Gr.step (zAP _ _) (zAP _ _))⟩
   ·have E := zPB (show lexB X Y = false from by rw [zCW S.out hlt HL.out]; exact zEt Y)
    go_wp2
    go_ret
    exact ⟨zAA E.out, B.out⟩
 ·have E := zPB (show zAy X Y = decide (X.length < Y.length) from if_neg hl)
  have hb : ((X.length : Int) != (Y.length : Int)) = true := by simp; omega
  clear hX hY hl
  generalize zAy X Y = ans at *
  generalize X.length = n at *
  generalize Y.length = m at *
  go_enter Tryz.func25, Tryz.ntmps25
  go_wp2
  go_ret
  exact ⟨zAA E.out, .refl _ _⟩
end Ro
namespace Le
open Go.RowKit Go.Maps
open Gr
open Rw (zDf zAK)
def JT (T : Int -> Ans) (l : List Int) (k : Nat) (lg : Bool) (X : List Int) : Prop := J T (l.take k) ≠ .none /\ lg = farA (J T (l.take k)) /\ (lg = false -> X = zAC (J T (l.take k)))
theorem zNE (T : Int -> Ans) (l : List Int) : JT T l 0 false [] := ⟨(fun h => by cases h), rfl, fun _ => rfl⟩
theorem zND {T : Int -> Ans} {l : List Int} {k : Nat} {lg : Bool} {X : List Int} (hT : Bnd T) (h : JT T l k lg X) (hk : k < l.length) (hn : T l[k] ≠ .none) (hl : lg = true \/ farA (T l[k]) = true \/ 4096 < X.length + (zAC (T l[k])).length) : JT T l (k + 1) true X := by
 obtain ⟨h1, h2, h3⟩ := h
 unfold JT
 rw [zJN hT hk]
 generalize J T (l.take k) = a at *
 generalize T l[k] = b at *
 have e : putA 4096 a b = .far := by
  cases b with
  | none => exact absurd rfl hn
  | far => exact zGP h1
  | is y =>
   cases a with
   | none => exact absurd rfl h1
   | far => rfl
   | is x =>
    have e2 : X = x := h3 (by rw [h2]; rfl)
    subst e2
    refine zCm ?_
    rcases hl with h4 | h4 | h4
    ·rw [h2] at h4; cases h4
    ·cases h4
    ·rw [List.length_append]
     exact Nat.not_le.2 h4
 rw [e]
 exact ⟨(fun h => by cases h), rfl, fun h => by cases h⟩
theorem zOQ {T : Int -> Ans} {l : List Int} {k : Nat} {X : List Int} (hT : Bnd T) (h : JT T l k false X) (hk : k < l.length) (hn : T l[k] ≠ .none) (hf : farA (T l[k]) = false) (hl : ¬ 4096 < X.length + (zAC (T l[k])).length) : JT T l (k + 1) false (X ++ zAC (T l[k])) := by
 obtain ⟨h1, h2, h3⟩ := h
 unfold JT
 rw [zJN hT hk]
 generalize J T (l.take k) = a at *
 generalize T l[k] = b at *
 cases b with
 | none => exact absurd rfl hn
 | far => cases hf
 | is y =>
  cases a with
  | none => exact absurd rfl h1
  | far => cases h2
  | is x =>
   have e2 : X = x := h3 rfl
   subst e2
   have e : putA 4096 (.is X) (.is y) = .is (X ++ y) := zBR (by rw [List.length_append]; exact Nat.not_lt.1 hl)
   rw [e]
   exact ⟨(fun h => by cases h), rfl, fun _ => rfl⟩
theorem zOR {T : Int -> Ans} {l : List Int} {k : Nat} {lg : Bool} {X : List Int} (h : JT T l k lg X) (hk : ¬ k < l.length) : hasA (J T l) = true /\ farA (J T l) = lg /\ zAC (J T l) = if lg = true then [] else X := by
 obtain ⟨h1, h2, h3⟩ := h
 rw [List.take_of_length_le (by omega)] at h1 h2 h3
 cases e : J T l with
 | none => exact absurd e h1
 | far =>
  rw [e] at h2
  exact ⟨rfl, h2.symm, by rw [h2]; rfl⟩
 | is x =>
  rw [e] at h2 h3
  refine ⟨rfl, h2.symm, ?_⟩
  rw [if_neg (by rw [h2]; exact fun h => by cases h)]
  exact (h3 h2).symm
def RJd (a : Ans) (w : World) (e : Ending) (w' : World) : Prop :=
 ∃ ad c, e = .returned (.tuple #[.slice ad (zAC a).length c, .bool (hasA a), .bool (farA a)]) /\ Sep.Reads ad (ivs (zAC a)) w' /\ New ad w /\ Below w.heap.size w w'
theorem zL2 {w : World} {base n c : Nat} {e : TypeId} {a : Option Addr} {xs : List Value} (h : w.ownsRow base e 1 (.slice a n c) n xs) : n <= c := by
 rcases h.2 with ⟨h1, h2⟩ | ⟨g, cap, cur, h1, _, _, h3, _⟩
 ·omega
 ·simp only [Value.slice.injEq] at h1
  omega
def RJc (a : Ans) (w : World) (e : Ending) (w' : World) : Prop :=
 ∃ ad c, e = .returned (.tuple #[.slice ad (zAC a).length c, .bool (hasA a), .bool (farA a)]) /\ Sep.Reads ad (ivs (zAC a)) w' /\ New ad w /\ Below w.heap.size w w' /\ (zAC a).length <= c
def zOs (T : Int -> Ans) (l : List Int) (W : World) (v7 v8 v9 : Value) (w : World) : Prop :=
 ∃ (k : Nat) (lg : Bool) (X : List Int), k <= l.length /\ v9 = .int .i64 k /\ v8 = .bool lg /\ zDf W.heap.size X v7 w /\ X.length <= 4096 /\ JT T l k lg X /\ Below W.heap.size W w
theorem zEI (p q1 q2 q3 hi n : Nat) (T : Int -> Ans) (f : Nat -> Value) (l : List Int) (a : Option Addr) (c : Nat) (w : World) (h : RAt p q1 q2 q3 hi n T f w) (hR : Sep.Reads a (ivs l) w) (hl : l.length <= 17592186044416) :
  Calls Tryz.prog 45 #[.pointer (some ⟨p, 0, none⟩), .slice a l.length c] w (RJc (J T l) w) := by
 obtain ⟨i0, hii, hz0, hz1, hz2⟩ := info_parts zAS
 have RA := zPB (fun w1 (b : Below w.heap.size w w1) => h.went b)
 have RR := zPB (fun w1 (b : Below w.heap.size w w1) => Sep.Reads.below hR b (Nat.le_refl _))
 have TB := zPB h.ok.bnd
 have TO := zPB h.ok.out
 have hsm := h.small
 clear h hR
 go_enter Tryz.func45, Tryz.ntmps45
 go_wp2
 go_loopw [7, 8, 9] (fun v7 v8 v9 wr => zOs T l w v7 v8 v9 wr) (fun _ _ i _ => l.length - (intOf i).toNat)
 case atStart => exact ⟨0, false, [], Nat.zero_le _, rfl, rfl, ⟨rfl, .inl ⟨rfl, rfl⟩⟩, Nat.zero_le _, zNE _ _, .refl _ _⟩
 case round =>
  obtain ⟨k, lg, X, hk, rfl, rfl, hO, hX, hJ, hB⟩ := hrel
  obtain ⟨xa, xc, rfl⟩ := zAK hO
  have O := zPB hO
  have JJ := zPB hJ
  have B := zPB hB
  have R := zPB (RA.out _ hB)
  clear hO hJ hB
  by_cases hlt : k < l.length
  ·obtain ⟨b, o, rfl, hcw⟩ := zAs (RR.out w (.refl _ _)) hlt
   have hc := cell_later B.out hcw
   have HCW := zPB hcw
   clear hcw
   have i0' : (0 : Int) <= (k : Int) := by omega
   have i1' : (k : Int) < (l.length : Int) := by omega
   have NN := zPB (fun e => zHP (T := T) hlt e)
   have JL := zPB (fun e1 e2 => zND TB.out JJ.out hlt e1 e2)
   have JA := zPB (fun (e : lg = false) => zOQ TB.out (show JT T l k false X by rw [← e]; exact JJ.out) hlt)
   obtain ⟨y0, y1, y2, yf⟩ := R.out.box.three
   generalize l[k] = s at *
   by_cases hs : 0 <= s /\ s < (n : Int)
   ·obtain ⟨hs0, hsn⟩ := hs
    obtain ⟨j, rfl⟩ := Int.eq_ofNat_of_zero_le hs0
    have hjn : j < n := by omega
    have z2 := R.out.c2.at_ j hjn
    have z3 := R.out.c3.at_ j hjn
    have z1 := R.out.c1.at_ j hjn
    obtain ⟨ya, yc, hfj, hRy, _⟩ := R.out.word j hjn
    rw [hfj] at z1
    have Z1W := zPB (show w.cell? ⟨q1, j, none⟩ = some (.slice ya (zAC (T (j : Int))).length yc) from by rw [← hfj]; exact (RA.out w (.refl _ _)).c1.at_ j hjn)
    have Y0W := zPB ((RA.out w (.refl _ _)).box.three.1)
    have d0 : decide ((j : Int) < 0) = false := decide_eq_false (by omega)
    have d1 : decide (n <= j) = false := decide_eq_false (by omega)
    have hYl := zE8 (TB.out (j : Int))
    clear hfj
    generalize hT : T (j : Int) = t at *
    clear hT
    cases hh : hasA t with
    | false =>
     have E := zPB (NN.out (by cases t <;> first | rfl | cases hh))
     rw [hh] at z2
     clear hh
     go_wp2
     go_quiet (fail)
     go_wp2
     go_ret3
     rw [E.out]
     exact ⟨none, 0, rfl, .nil _ _, (fun x h => by cases h), Gr.step B.out (zAP _ _), Nat.le_refl _⟩
    | true =>
     have HN := zPB (show t ≠ .none from fun e => by subst e; cases hh)
     have hsum : IntKind.i64.wrap ((X.length : Int) + ((zAC t).length : Int)) = (X.length : Int) + ((zAC t).length : Int) := IntWalk.i64_in _ (by omega)
     rw [hh] at z2
     clear hh
     cases hf : farA t with
     | true =>
      have J1 := zPB (JL.out HN.out (.inr (.inl hf)))
      rw [hf] at z3
      clear hf JL JA NN
      go_wp2
      go_quiet (fail)
      go_wp2
      go_quiet (fail)
      go_wp2
      go_roundw
      case rel => exact ⟨k + 1, true, X, by omega, by go_num, rfl, O.out.went (zAP _ _), hX, J1.out, Gr.step B.out (zAP _ _)⟩
      case measure => simp [intOf]; omega
     | false =>
      rw [hf] at z3
      by_cases hov : 4096 < X.length + (zAC t).length
      ·have J1 := zPB (JL.out HN.out (.inr (.inr hov)))
       have d2 : decide ((4096 : Int) < (X.length : Int) + ((zAC t).length : Int)) = true := decide_eq_true (by omega)
       clear hf JL JA NN hov
       go_wp2
       go_quiet (fail)
       go_wp2
       go_quiet (fail)
       go_wp2
       go_roundw
       case rel => exact ⟨k + 1, true, X, by omega, by go_num, rfl, O.out.went (zAP _ _), hX, J1.out, Gr.step B.out (zAP _ _)⟩
       case measure => simp [intOf]; omega
      ·have d2 : decide ((4096 : Int) < (X.length : Int) + ((zAC t).length : Int)) = false := decide_eq_false (by omega)
       cases lg with
       | true =>
        have J1 := zPB (JL.out HN.out (.inl rfl))
        clear hf JL JA NN hov
        go_wp2
        go_quiet (fail)
        go_wp2
        go_quiet (fail)
        go_wp2
        go_roundw
        case rel => exact ⟨k + 1, true, X, by omega, by go_num, rfl, O.out.went (zAP _ _), hX, J1.out, Gr.step B.out (zAP _ _)⟩
        case measure => simp [intOf]; omega
       | false =>
        have J1 := zPB (JA.out rfl HN.out hf hov)
        have hXY : X.length + (zAC t).length <= 4096 := by omega
        clear hf JL JA NN hov
        generalize zAC t = Y at *
        go_wp2
        go_quiet (fail)
        go_wp2
        go_quiet (fail)
        have HQ := zPB (show ∀ w', Below w.heap.size w w' -> w'.cell? ⟨p, 0, none⟩ = some (.slice (some ⟨q1, 0, none⟩) n n) /\ w'.cell? ⟨b, o + k, none⟩ = some (.int .i64 (j : Int)) /\ w'.cell? ⟨q1, j, none⟩ = some (.slice ya Y.length yc) /\ Below w.heap.size w w' from
         fun w' hb => ⟨cell_later hb Y0W.out, cell_later hb HCW.out, cell_later hb Z1W.out, hb⟩)
        go_wp2
        clear y0 y1 y2 yf hc z1 z2 z3
        go_region_held3 (fun w' => w'.cell? ⟨p, 0, none⟩ = some (.slice (some ⟨q1, 0, none⟩) n n) /\ w'.cell? ⟨b, o + k, none⟩ = some (.int .i64 (j : Int)) /\ w'.cell? ⟨q1, j, none⟩ = some (.slice ya Y.length yc) /\ Below w.heap.size w w')
         (exact HQ.out _ (by first | assumption | exact Gr.step B.out (zAP _ _) | exact Gr.step B.out (Gr.step (zAP _ _) (drawn _))))
         ((refine zAG _ (by rfl) _ _ 40 (by rfl) w.heap.size 3 i0 (.int .i64 0) 8 Tryz.underlying40 hii hz0 hz1 hz2 rfl (.slice xa X.length xc) X.length (ivs X) (by rfl) (O.out.went (by first | assumption | exact zAP _ _ | exact Gr.step (zAP _ _) (drawn _))) _ _ _ (ivs Y) (by rfl) (by simp [ivs]) (Sep.Reads.below hRy (by first | assumption | exact zAP _ _ | exact Gr.step (zAP _ _) (drawn _)) (Nat.le_refl _)) (by simp [ivs, iv, Value.oneCell']) (by unfold maxLen; omega) (by omega) (by first | exact (Gr.step B.out (by first | assumption | exact zAP _ _ | exact Gr.step (zAP _ _) (drawn _))).size) ?_; intro v4 w4 hown4 hg4 hl4; have k4 : Below w.heap.size w w4 := Below.grown (by first | assumption | exact Gr.step B.out (zAP _ _) | exact Gr.step B.out (Gr.step (zAP _ _) (drawn _))) hg4 (by first | exact (Gr.step B.out (zAP _ _)).size | exact (Gr.step B.out (Gr.step (zAP _ _) (drawn _))).size) (fun g hg => (World.ownsRow.lt O.out g hg).1)))
        have O4 := zPB (show zDf w.heap.size (X ++ Y) v4 w4 by unfold zDf; rw [List.length_append, show ivs (X ++ Y) = ivs X ++ ivs Y by simp [ivs]]; exact hown4)
        clear hown4 hg4 hl4
        go_wp2
        go_roundw
        case rel => exact ⟨k + 1, false, X ++ Y, by omega, by go_num, rfl, O4.out, by rw [List.length_append]; omega, J1.out, k4⟩
        case measure => simp [intOf]; omega
   ·have E := zPB (NN.out (TO.out s hs))
    clear JL JA NN
    by_cases hs0 : s < 0
    ·have d0 : decide (s < 0) = true := decide_eq_true hs0
     clear hs hs0
     go_wp2
     go_quiet (fail)
     go_wp2
     go_ret3
     rw [E.out]
     exact ⟨none, 0, rfl, .nil _ _, (fun x h => by cases h), Gr.step B.out (zAP _ _), Nat.le_refl _⟩
    ·obtain ⟨j, rfl⟩ := Int.eq_ofNat_of_zero_le (Int.not_lt.1 hs0)
     have d0 : decide ((j : Int) < 0) = false := decide_eq_false (by omega)
     have d1 : decide (n <= j) = true := decide_eq_true (by omega)
     clear hs hs0
     go_wp2
     go_quiet (fail)
     go_wp2
     go_ret3
     rw [E.out]
     exact ⟨none, 0, rfl, .nil _ _, (fun x h => by cases h), Gr.step B.out (zAP _ _), Nat.le_refl _⟩
  ·obtain ⟨e1, e2, e3⟩ := zOR JJ.out hlt
   have E1 := zPB e1
   have E2 := zPB e2
   have E3 := zPB e3
   clear e1 e2 e3
   cases lg with
   | true =>
    go_wp2
    go_ret3
    refine ⟨none, 0, ?_, ?_, (fun x h => by cases h), B.out, by rw [E3.out]; exact Nat.le_refl _⟩
    ·rw [E1.out, E2.out, E3.out]
     rfl
    ·rw [E3.out]
     exact .nil _ _
   | false =>
    go_wp2
    go_ret3
    have e4 : zAC (J T l) = X := E3.out
    refine ⟨xa, xc, ?_, ?_, Gr.zDU O.out (Nat.le_refl _), B.out, by rw [e4]; exact zL2 O.out⟩
    ·rw [E1.out, E2.out, e4]
     rfl
    ·rw [e4]
     exact Sep.Reads.of_row O.out
theorem zKB (p q1 q2 q3 hi n : Nat) (T : Int -> Ans) (f : Nat -> Value) (l : List Int) (a : Option Addr) (c : Nat) (w : World) (h : RAt p q1 q2 q3 hi n T f w) (hR : Sep.Reads a (ivs l) w) (hl : l.length <= 17592186044416) :
  Calls Tryz.prog 45 #[.pointer (some ⟨p, 0, none⟩), .slice a l.length c] w (RJd (J T l) w) :=
 (zEI p q1 q2 q3 hi n T f l a c w h hR hl).mono fun _ _ ⟨ad, ac, h1, h2, h3, h4, _⟩ => ⟨ad, ac, h1, h2, h3, h4⟩
