/- A part of the proof. -/
import Derived.Test.YtbcgmiocolpjoaaGreatPk08
set_option maxHeartbeats 8000000
set_option maxRecDepth 100000
set_option linter.unusedVariables false
namespace Go.Proofs.YtbcgmiocolpjoaaGreat
open Go.RowKit Go.Maps
namespace Gr
theorem zIM {a : Option Addr} {R : List (Int × List Int)} {w : World} (h : zAu a R w) (k : Nat) : zAu a (R.take k) w := fun i hi => by
 have hi' : i < R.length := by rw [List.length_take] at hi; omega
 have := h i hi'
 rw [← List.getElem_take (h := hi)] at this
 exact this
theorem zLn {R : List (Int × List Int)} {k : Nat} (hk : k < R.length) (h : (R.take k).Nodup) (ha : (R.take k).any (fun o => zA5 o R[k]) = false) : (R.take (k + 1)).Nodup := by
 rw [List.take_succ_eq_append_getElem hk, List.nodup_append]
 refine ⟨h, by simp, fun a hm b hb => ?_⟩
 simp only [List.mem_singleton] at hb
 subst hb
 rintro rfl
 have := List.any_eq_false.1 ha _ hm
 exact this (zCV.2 rfl)
theorem zLm {R : List (Int × List Int)} {k : Nat} (hk : k < R.length) (ha : (R.take k).any (fun o => zA5 o R[k]) = true) : ¬ R.Nodup := by
 intro hN
 obtain ⟨o, hm, he⟩ := List.any_eq_true.1 ha
 rw [zCV] at he
 subst he
 obtain ⟨i, hi', e⟩ := List.mem_iff_getElem.1 hm
 simp at hi'
 rw [List.getElem_take] at e
 have := (List.getElem_inj hN (i := i) (j := k) (h₀ := by omega) (h₁ := hk)).1 e
 omega
theorem zDm (h : Sh) (G : Gram) (w : World) (k : GAt h G w) :
  Calls Tryz.prog 64 #[gv h G] w (Is (.bool (!zAr G)) w) := by
 have hc3 := k.r2
 have hcap := k.r1
 obtain ⟨a1, c1, a2, c2, a3, c3⟩ := h
 have X := zPB (Bx.start ⟨a1, c1, a2, c2, a3, c3⟩ G w 25)
 have K := zPB (show ∀ w1, Below w.heap.size w w1 -> zAu a3 G.rules w1 from fun w1 (b : Below w.heap.size w w1) => (k.went b).rules)
 have hmf : ∀ (fn : Fn) (first cap : Array Value) (w : World), (Instr.makeFunc fn first cap).run Tryz.prog w = .ok (.func fn first cap) w := fun _ _ _ _ => rfl
 clear k
 dsimp only at hcap
 unfold gv
 dsimp only
 go_enter Tryz.func64, Tryz.ntmps64
 go_wp2
 go_loopw [8] (fun i wr => ∃ j : Nat, j <= G.rules.length /\ i = .int .i64 j /\ (G.rules.take j).Nodup /\ Bx w ⟨a1, c1, a2, c2, a3, c3⟩ G wr) (fun i _ => G.rules.length - (intOf i).toNat)
 case atStart => exact ⟨0, Nat.zero_le _, rfl, by simp, X.out⟩
 case round =>
  clear X
  obtain ⟨j, hj, rfl, hA, hX⟩ := hrel
  have A := zPB hA
  have X := zPB hX
  obtain ⟨x0, x1, x2, x3⟩ := hX.box
  clear hA hX
  by_cases hlt : j < G.rules.length
  ·obtain ⟨b, o, ra, rc, e, h1, h2, h3, h4, h5⟩ := K.out _ X.out.below j hlt
   try dsimp only at e
   subst e
   have hsz : w.heap.size < wr.heap.size := X.out.size
   have AE := zPB (fun he => zLn hlt A.out he)
   have AF := zPB (fun he => zLm hlt he)
   generalize G.rules[j] = r at h1 h2 h3 h4 h5 AE AF
   have RB := zPB (show zCd wr.heap.size r (wr.alloc (.cells #[.int .i64 r.1, .slice ra r.2.length rc] 59)) from ⟨ra, rc, zAB rfl rfl, zAB rfl rfl, Sep.Reads.below h3 (boxed _ _) (Nat.le_refl _), by omega⟩)
   have HC := zPB (show Calls Tryz.prog 86 #[.slice (some ⟨b, o, none⟩) j c3, .func (.func 91) #[] #[.pointer (some ⟨wr.heap.size, 0, none⟩)]] (wr.alloc (.cells #[.int .i64 r.1, .slice ra r.2.length rc] 59)) (Is (.bool ((G.rules.take j).any (fun o => zA5 o r))) (wr.alloc (.cells #[.int .i64 r.1, .slice ra r.2.length rc] 59))) from by
    have := zFL wr.heap.size r (G.rules.take j) (some ⟨b, o, none⟩) c3 _ (zIM (K.out _ (X.out.alloc _).below) j) (by rw [List.length_take]; omega) RB.out
    rw [List.length_take, Nat.min_eq_left hj] at this
    exact this)
   clear h3 h4 h5 RB
   cases hs : (G.rules.take j).any (fun o => zA5 o r) with
   | false =>
    rw [hs] at HC
    have A2 := zPB (AE.out hs)
    clear hs
    go_wp2_with (go_at_call 86; refine HC.out.mono ?_; rintro e w1 ⟨rfl, hb⟩; have X := zPB ((X.out.alloc _).went hb); clear hb)
    go_roundw
    case rel => exact ⟨j + 1, by omega, by go_num, A2.out, X.out⟩
    case measure => simp [intOf]; omega
   | true =>
    rw [hs] at HC
    have F := zPB (AF.out hs)
    clear hs
    go_wp2_with (go_at_call 86; refine HC.out.mono ?_; rintro e w1 ⟨rfl, hb⟩; have X := zPB ((X.out.alloc _).went hb); clear hb)
    go_ret
    exact ⟨zAA (by unfold zAr; rw [decide_eq_false F.out]; rfl), X.out.below⟩
  ·have F := zPB (show G.rules.Nodup by have h1 := A.out; rw [List.take_of_length_le (by omega)] at h1; exact h1)
   go_wp2
   go_ret
   exact ⟨zAA (by unfold zAr; rw [decide_eq_true F.out]; rfl), X.out.below⟩
def zOo (w : World) (p1 p2 p3 p4 p5 : Addr) (v1 v2 v3 v4 v5 : Value) : Prop :=
 ∀ w', Below w.heap.size w w' -> w'.cell? p1 = some v1 /\ w'.cell? p2 = some v2 /\ w'.cell? p3 = some v3 /\ w'.cell? p4 = some v4 /\ w'.cell? p5 = some v5 /\ Below w.heap.size w w'
theorem zOz {w : World} {p1 p2 p3 p4 p5 : Addr} {v1 v2 v3 v4 v5 : Value} (h1 : w.cell? p1 = some v1) (h2 : w.cell? p2 = some v2) (h3 : w.cell? p3 = some v3) (h4 : w.cell? p4 = some v4) (h5 : w.cell? p5 = some v5) : zOo w p1 p2 p3 p4 p5 v1 v2 v3 v4 v5 :=
 fun _ hb => ⟨cell_later hb h1, cell_later hb h2, cell_later hb h3, cell_later hb h4, cell_later hb h5, hb⟩
def Unl (R : List (Int × List Int)) (k m : Nat) : Prop := ∀ i (hi : i < R.length) (hk : k < R.length), i < m -> R[k] ≠ R[i]
theorem zMN (R : List (Int × List Int)) (k : Nat) : Unl R k 0 := fun _ _ _ h => absurd h (by omega)
theorem zMM {R : List (Int × List Int)} {k m : Nat} (h : Unl R k m) (hm : m < R.length) (hk : k < R.length) (e : R[k] ≠ R[m]) : Unl R k (m + 1) := fun i hi hk' hl => by
 by_cases he : i = m
 ·subst he
  exact e
 ·exact h i hi hk' (by omega)
theorem zN0 {R : List (Int × List Int)} {k : Nat} (h : Unl R k k) (hk : k < R.length) (hN : (R.take k).Nodup) : (R.take (k + 1)).Nodup := by
 rw [List.take_succ_eq_append_getElem hk, List.nodup_append]
 refine ⟨hN, by simp, fun a hm b hb => ?_⟩
 simp only [List.mem_singleton] at hb
 subst hb
 obtain ⟨i, hi', e⟩ := List.mem_iff_getElem.1 hm
 simp at hi'
 rw [List.getElem_take] at e
 exact fun h' => h i (by omega) hk (by omega) (by rw [e, h'])
theorem zML {R : List (Int × List Int)} {k m : Nat} (hk : k < R.length) (hm : m < k) (e : R[k] = R[m]) : ¬ R.Nodup := by
 intro hN
 have := (List.getElem_inj hN (i := k) (j := m) (h₀ := hk) (h₁ := by omega)).1 e
 omega
theorem zGV (h : Sh) (G : Gram) (w : World) (k : GAt h G w) :
  Calls Tryz.prog 54 #[gv h G] w (Is (.bool (zAr G)) w) := by
 have hc3 := k.r2
 obtain ⟨a1, c1, a2, c2, a3, c3⟩ := h
 have X := zPB (Bx.start ⟨a1, c1, a2, c2, a3, c3⟩ G w 25)
 have K := zPB (show ∀ w1, Below w.heap.size w w1 -> zAu a3 G.rules w1 from fun w1 (b : Below w.heap.size w w1) => (k.went b).rules)
 clear k
 unfold gv
 dsimp only
 go_enter Tryz.func54, Tryz.ntmps54
 go_wp2
 go_loopw [3] (fun i wr => ∃ j : Nat, j <= G.rules.length /\ i = .int .i64 j /\ (G.rules.take j).Nodup /\ Bx w ⟨a1, c1, a2, c2, a3, c3⟩ G wr) (fun i _ => G.rules.length - (intOf i).toNat)
 case atStart => exact ⟨0, Nat.zero_le _, rfl, by simp, X.out⟩
 case round =>
  clear X
  obtain ⟨j, hj, rfl, hA, hX⟩ := hrel
  have A := zPB hA
  have X0 := zPB hX
  obtain ⟨x0, x1, x2, x3⟩ := hX.box
  clear hA hX
  by_cases hlt : j < G.rules.length
  ·go_wp2
   clear x0 x1 x2 x3
   go_loopw [4] (fun i wr => ∃ m : Nat, m <= j /\ i = .int .i64 m /\ Unl G.rules j m /\ Bx w ⟨a1, c1, a2, c2, a3, c3⟩ G wr) (fun i _ => j - (intOf i).toNat)
   case atStart => exact ⟨0, Nat.zero_le _, rfl, zMN _ _, X0.out⟩
   case round =>
    clear X0
    obtain ⟨m, hm, rfl, hU, hX⟩ := hrel
    have U := zPB hU
    have X := zPB hX
    obtain ⟨x0, x1, x2, x3⟩ := hX.box
    clear hU hX
    by_cases hlm : m < j
    ·have hlm' : m < G.rules.length := by omega
     obtain ⟨b, o, ra, rc, e, h1, h2, h3, h4, h5⟩ := K.out _ X.out.below j hlt
     obtain ⟨b', o', rb, rd, e', g1, g2, g3, g4, g5⟩ := K.out _ X.out.below m hlm'
     try dsimp only at e e'
     have e2 := e.symm.trans e'
     simp only [Option.some.injEq, Addr.mk.injEq, and_true] at e2
     obtain ⟨rfl, rfl⟩ := e2
     clear e'
     subst e
     have AE := zPB (fun he => zMM U.out hlm' hlt he)
     have AF := zPB (fun he => zML hlt hlm he)
     generalize G.rules[j] = r at h1 h2 h3 h4 h5 AE AF
     generalize G.rules[m] = q at g1 g2 g3 g4 g5 AE AF
     have HC := zPB (fun w1 (k : Below wr.heap.size wr w1) => zIL r q ra rb rc rd w1 (Sep.Reads.below h3 k (Nat.le_refl _)) (Sep.Reads.below g3 k (Nat.le_refl _)) (by omega) (by omega))
     have y2 := x2
     dsimp only at y2
     have HQ := zPB (zOz y2 h1 h2 g1 g2)
     clear h3 g3 h4 g4 h5 g5 h1 h2 g1 g2
     have hbd := drawn wr
     go_wp2
     clear x0 x1 x2 x3 y2
     go_region_held3 (fun w' => w'.cell? ⟨w.heap.size, 2, none⟩ = some (.slice (some ⟨b, o, none⟩) G.rules.length c3) /\ w'.cell? ⟨b, o + j * 2, none⟩ = some (.int .i64 r.1) /\ w'.cell? ⟨b, o + j * 2 + 1, none⟩ = some (.slice ra r.2.length rc) /\ w'.cell? ⟨b, o + m * 2, none⟩ = some (.int .i64 q.1) /\ w'.cell? ⟨b, o + m * 2 + 1, none⟩ = some (.slice rb q.2.length rd) /\ Below wr.heap.size wr w')
      (exact HQ.out _ (by assumption))
      (first
       | (go_at_call 83; refine (HC.out _ hbd).mono ?_; rintro e wn ⟨rfl, hb⟩; have kB : Below wr.heap.size wr wn := step hbd hb; clear hb)
       | fail)
     cases hs : zA5 r q with
     | true =>
      have F := zPB (AF.out (zCV.1 hs))
      clear hs
      go_wp2
      go_ret
      exact ⟨zAA (by unfold zAr; rw [decide_eq_false F.out]), step X.out.below kB⟩
     | false =>
      have U2 := zPB (AE.out (zGW.1 hs))
      clear hs
      go_wp2
      go_roundw
      case rel => exact ⟨m + 1, by omega, by go_num, U2.out, X.out.went kB⟩
      case measure => simp [intOf]; omega
    ·have hE : m = j := by omega
     subst hE
     have A2 := zPB (zN0 U.out hlt A.out)
     go_wp2
     go_roundw
     case rel => exact ⟨m + 1, by omega, by go_num, A2.out, X.out⟩
     case measure => simp [intOf]; omega
  ·have F := zPB (show G.rules.Nodup by have h1 := A.out; rw [List.take_of_length_le (by omega)] at h1; exact h1)
   go_wp2
   go_ret
   exact ⟨zAA (by unfold zAr; rw [decide_eq_true F.out]), X0.out.below⟩
theorem zFo {G : Gram} {k : Nat} (h : ∀ i, i < k -> 0 < (ofL G ((G.terms.length : Int) + 1 + i)).length) (hk : ¬ k < G.nons.length) : zBq G = true := by
 unfold zBq
 rw [List.all_eq_true]
 intro i hi
 have := h i (by have := List.mem_range.1 hi; omega)
 rw [zA8] at this
 cases e : ofN G ((G.terms.length : Int) + 1 + i) with
 | nil => rw [e] at this; simp at this
 | cons x l => rfl
theorem zEM {G : Gram} {k : Nat} (hk : k < G.nons.length) (h : ¬ 0 < (ofL G ((G.terms.length : Int) + 1 + k)).length) : zBq G = false := by
 unfold zBq
 rw [List.all_eq_false]
 refine ⟨k, List.mem_range.2 hk, ?_⟩
 rw [zA8] at h
 cases e : ofN G ((G.terms.length : Int) + 1 + k) with
 | nil => simp
 | cons x l => rw [e] at h; simp at h
theorem zGa (h : Sh) (G : Gram) (w : World) (k : GAt h G w) (hr : G.rules.length <= 65536) :
  Calls Tryz.prog 65 #[gv h G] w (Is (.bool (!zBq G)) w) := by
 have t := k.t2
 have n := k.n2
 have T := zPB (fun w1 (b : Below w.heap.size w w1) => zBf h G w1 (k.went b))
 have N := zPB (fun s w1 (b : Below w.heap.size w w1) => zCP h G s w1 (k.went b) hr)
 have X := zPB (Bx.start h G w 25)
 have htop : (top G : Int) = (G.terms.length : Int) + (G.nons.length : Int) := by unfold top; omega
 have HT := zPB htop
 generalize top G = tp at T htop
 clear k HT
 unfold gv
 go_enter Tryz.func65, Tryz.ntmps65
 go_wp2
 go_loopw [3] (fun i wr => ∃ j : Nat, j <= G.nons.length /\ i = .int .i64 ((G.terms.length : Int) + 1 + j) /\ (∀ i, i < j -> 0 < (ofL G ((G.terms.length : Int) + 1 + i)).length) /\ Bx w h G wr) (fun i _ => (G.terms.length + G.nons.length + 1) - (intOf i).toNat)
 case atStart => exact ⟨0, Nat.zero_le _, by go_num, fun _ h => absurd h (by omega), X.out⟩
 case round =>
  clear X
  obtain ⟨j, hj, rfl, hA, hX⟩ := hrel
  have A := zPB hA
  have X := zPB hX
  obtain ⟨x0, x1, x2, x3⟩ := hX.box
  clear hA hX
  by_cases hlt : j < G.nons.length
  ·have NN := zPB (N.out ((G.terms.length : Int) + 1 + j))
   have F3 := zPB (zEM (G := G) (k := j) hlt)
   have F4 := zPB (fun (h0 : 0 < (ofL G ((G.terms.length : Int) + 1 + j)).length) i (hi : i < j + 1) => show 0 < (ofL G ((G.terms.length : Int) + 1 + i)).length by
    by_cases e : i = j
    ·subst e; exact h0
    ·exact A.out i (by omega))
   generalize hL : ofL G ((G.terms.length : Int) + 1 + j) = L at NN F3 F4
   clear hL
   rcases L with _ | ⟨x, l⟩
   ·have F := zPB (F3.out (by simp))
    clear F3 F4
    go_wp2_with (first
     | (go_at_call 70; refine (T.out _ X.out.below).mono ?_; rintro e w1 ⟨rfl, hb⟩; have X := zPB (X.out.went hb); obtain ⟨x0, x1, x2, x3⟩ := X.out.box; clear hb)
     | (go_at_call 93; refine (NN.out _ X.out.below).mono ?_; rintro e w2 ⟨a', c', rfl, hr, hn, hb⟩; have X := zPB (X.out.went hb); clear hb hr hn))
    go_ret
    exact ⟨zAA (by rw [F.out]; rfl), X.out.below⟩
   ·have F := zPB (F4.out (by simp))
    clear F3 F4
    go_wp2_with (first
     | (go_at_call 70; refine (T.out _ X.out.below).mono ?_; rintro e w1 ⟨rfl, hb⟩; have X := zPB (X.out.went hb); obtain ⟨x0, x1, x2, x3⟩ := X.out.box; clear hb)
     | (go_at_call 93; refine (NN.out _ X.out.below).mono ?_; rintro e w2 ⟨a', c', rfl, hr, hn, hb⟩; have X := zPB (X.out.went hb); clear hb hr hn))
    go_roundw
    case rel => exact ⟨j + 1, by omega, by go_num, F.out, X.out⟩
    case measure => simp [intOf]; omega
  ·have F := zPB (zFo A.out hlt)
   go_wp2_with (go_at_call 70; refine (T.out _ X.out.below).mono ?_; rintro e w1 ⟨rfl, hb⟩; have X := zPB (X.out.went hb); clear hb)
   go_ret
   exact ⟨zAA (by rw [F.out]; rfl), X.out.below⟩
def Much (G : Gram) (w : World) (e : Ending) (w' : World) : Prop := ∃ n : Int, e = .returned (.int .i64 n) /\ (G.terms.length : Int) + G.nons.length + G.rules.length <= n /\ Below w.heap.size w w'
theorem zC3 (h : Sh) (G : Gram) (w : World) (k : GAt h G w) :
  Calls Tryz.prog 6 #[gv h G] w (Much G w) := by
 have t := k.t2
 have n := k.n2
 have r := k.r2
 obtain ⟨a1, c1, a2, c2, a3, c3⟩ := h
 have X := zPB (boxed w (.cells #[.slice a1 G.terms.length c1, .slice a2 G.nons.length c2, .slice a3 G.rules.length c3, .int .i64 G.start] 25))
 have HT := zPB (show Sep.Reads a1 (G.terms.map .string) (w.alloc (.cells #[.slice a1 G.terms.length c1, .slice a2 G.nons.length c2, .slice a3 G.rules.length c3, .int .i64 G.start] 25)) from (k.went X.out).terms)
 have HN := zPB (show Sep.Reads a2 (G.nons.map .string) (w.alloc (.cells #[.slice a1 G.terms.length c1, .slice a2 G.nons.length c2, .slice a3 G.rules.length c3, .int .i64 G.start] 25)) from (k.went X.out).nons)
 have HR := zPB (show zAu a3 G.rules (w.alloc (.cells #[.slice a1 G.terms.length c1, .slice a2 G.nons.length c2, .slice a3 G.rules.length c3, .int .i64 G.start] 25)) from (k.went X.out).rules)
 have TS := zPB k.ok.terms
 have NS := zPB k.ok.nons
 clear k
 unfold gv
 dsimp only
 obtain ⟨S, hS⟩ : ∃ S : Int, S = (G.terms.length : Int) + G.nons.length + G.rules.length := ⟨_, rfl⟩
 have hS0 : 0 <= S := by omega
 have hS1 : S <= 35184372088832 := by omega
 have HS := zPB hS
 go_enter Tryz.func6, Tryz.ntmps6
 go_wp2
 go_loop [3, 4] (fun v i => ∃ j : Nat, ∃ m : Int, j <= G.terms.length /\ j <= 200 /\ i = .int .i64 j /\ v = .int .i64 m /\ S <= m /\ m <= S + j * 8796093022208) (fun _ i => 200 - (intOf i).toNat)
 case atStart => exact ⟨0, S, Nat.zero_le _, by omega, rfl, by first | rfl | (rw [HS.out]) | go_num, by omega, by omega⟩
 case round =>
  obtain ⟨j, m, hj, hj2, rfl, rfl, hm1, hm2⟩ := hrel
  by_cases hlt : j < G.terms.length /\ j < 200
  ·obtain ⟨hl1, hl2⟩ := hlt
   obtain ⟨b, o, e, hc⟩ := zEQ HT.out hl1
   have hs := TS.out _ (List.getElem_mem hl1)
   subst e
   generalize G.terms[j] = s at hc hs
   clear hS
   go_wp2
   go_round
   case rel => exact ⟨j + 1, m + (s.size : Int) / 20, by omega, by omega, by go_num, by go_num, by omega, by omega⟩
   case measure => simp [intOf]; omega
  ·have hb2 : m <= S + 1759218604441600 := by omega
   clear hm2
   have fin1 : ∀ (P : Prop), (¬ j < G.terms.length -> P) -> (j < G.terms.length -> ¬ j < 200 -> P) -> P := fun P f g => by
    by_cases h1 : j < G.terms.length
    ·exact g h1 (fun h2 => hlt ⟨h1, h2⟩)
    ·exact f h1
   have FIN := zPB fin1
   clear fin1 hlt hj2 hj
   refine FIN.out _ (fun h1 => ?_) (fun h1 h2 => ?_)
   all_goals
    clear hS
    go_wp2
    clear h1
    try clear h2
    go_loop [3, 5] (fun v i => ∃ j : Nat, ∃ m : Int, j <= G.nons.length /\ j <= 200 /\ i = .int .i64 j /\ v = .int .i64 m /\ S <= m /\ m <= S + 1759218604441600 + j * 8796093022208) (fun _ i => 200 - (intOf i).toNat)
    case atStart => exact ⟨0, m, Nat.zero_le _, by omega, rfl, rfl, by omega, by omega⟩
    case round =>
     clear hm1 hb2 FIN
     obtain ⟨j, m, hj, hj2, rfl, rfl, hm1, hm2⟩ := hrel
     by_cases hlt : j < G.nons.length /\ j < 200
     ·obtain ⟨hl1, hl2⟩ := hlt
      obtain ⟨b, o, e, hc⟩ := zEQ HN.out hl1
      have hs := NS.out _ (List.getElem_mem hl1)
      subst e
      generalize G.nons[j] = s at hc hs
      go_wp2
      go_round
      case rel => exact ⟨j + 1, m + (s.size : Int) / 20, by omega, by omega, by go_num, by go_num, by omega, by omega⟩
      case measure => simp [intOf]; omega
     ·have hb2 : m <= S + 3518437208883200 := by omega
      clear hm2
      have fin1 : ∀ (P : Prop), (¬ j < G.nons.length -> P) -> (j < G.nons.length -> ¬ j < 200 -> P) -> P := fun P f g => by
       by_cases h1 : j < G.nons.length
       ·exact g h1 (fun h2 => hlt ⟨h1, h2⟩)
       ·exact f h1
      have FIN := zPB fin1
      clear fin1 hlt hj2 hj
      refine FIN.out _ (fun h1 => ?_) (fun h1 h2 => ?_)
      all_goals
       go_wp2
       clear h1
       try clear h2
       go_loop [3, 6] (fun v i => ∃ j : Nat, ∃ m : Int, j <= G.rules.length /\ j <= 400 /\ i = .int .i64 j /\ v = .int .i64 m /\ S <= m /\ m <= S + 3518437208883200 + j * 8796093022208) (fun _ i => 400 - (intOf i).toNat)
       case atStart => exact ⟨0, m, Nat.zero_le _, by omega, rfl, rfl, by omega, by omega⟩
       case round =>
        clear hm1 hb2 FIN
        obtain ⟨j, m, hj, hj2, rfl, rfl, hm1, hm2⟩ := hrel
        by_cases hlt : j < G.rules.length /\ j < 400
        ·obtain ⟨hl1, hl2⟩ := hlt
         obtain ⟨b, o, ra, rc, e, g1, g2, g3, g4, g5⟩ := HR.out j hl1
         subst e
         generalize G.rules[j].2 = rr at g2 g3 g4 g5
         clear g1 g3
         have hrr : rr.length <= 17592186044416 := by omega
         go_wp2
         go_round
         case rel => exact ⟨j + 1, m + (rr.length : Int) / 9, by omega, by omega, by go_num, by go_num, by omega, by omega⟩
         case measure => simp [intOf]; omega
        ·have fin1 : ∀ (P : Prop), (¬ j < G.rules.length -> P) -> (j < G.rules.length -> ¬ j < 400 -> P) -> P := fun P f g => by
          by_cases h1 : j < G.rules.length
          ·exact g h1 (fun h2 => hlt ⟨h1, h2⟩)
          ·exact f h1
         have FIN := zPB fin1
         clear fin1 hlt hj2 hj hm2
         refine FIN.out _ (fun h1 => ?_) (fun h1 h2 => ?_)
         all_goals
          go_wp2
          go_ret
          exact ⟨_, rfl, by rw [← HS.out]; exact hm1, X.out⟩
