/- A part of the proof. -/
import Derived.Test.YtbcgmiocolpjoaaGreatPk26
import Derived.Deep.LoopGhost
import Derived.RegionTactic
import Derived.BigRegion
set_option maxHeartbeats 16000000
set_option maxRecDepth 100000
set_option linter.unusedVariables false
namespace Go.Proofs.YtbcgmiocolpjoaaGreat
open Go.RowKit Go.Maps
namespace Le
open Gr
theorem zDQ (p q1 q2 q3 hi n : Nat) (T : Int -> Ans) (f : Nat -> Value) (j : Nat) (a : Ans) (xa : Option Addr) (xc : Nat) (w : World) (h : RAt p q1 q2 q3 hi n T f w) (hj : j < n) (ha : a ≠ .none) (hb : Bd a) (hX : Sep.Reads xa (ivs (zAC a)) w) :
  Calls Tryz.prog 46 #[.pointer (some ⟨p, 0, none⟩), .int .i64 (j : Int), .slice xa (zAC a).length xc, .bool (farA a)] w (Is (.bool (zAQ a (T (j : Int)))) w) := by
 have hsm := h.small
 obtain ⟨y0, y1, y2, yf⟩ := h.box.three
 have z1 := h.c1.at_ j hj
 have z2 := h.c2.at_ j hj
 have z3 := h.c3.at_ j hj
 obtain ⟨ya, yc, hfj, hRy, _⟩ := h.word j hj
 rw [hfj] at z1
 have hY := h.ok.bnd (j : Int)
 clear hfj h
 generalize T (j : Int) = t at *
 cases t with
 | none =>
  have E := zPB (show zAQ a .none = true by cases a <;> first | rfl | exact absurd rfl ha)
  dsimp only [hasA, farA] at z2 z3
  clear hX hRy
  generalize farA a = fa at *
  go_enter Tryz.func46, Tryz.ntmps46
  go_wp2
  go_ret
  exact ⟨zAA E.out, .refl _ _⟩
 | far =>
  dsimp only [hasA, farA] at z2 z3
  clear hX hRy
  cases a with
  | none => exact absurd rfl ha
  | far =>
   dsimp only [farA, zAC, zAQ]
   go_enter Tryz.func46, Tryz.ntmps46
   go_wp2
   go_ret
   exact ⟨rfl, .refl _ _⟩
  | is x =>
   dsimp only [farA, zAC, zAQ]
   go_enter Tryz.func46, Tryz.ntmps46
   go_wp2
   go_ret
   exact ⟨rfl, .refl _ _⟩
 | is y =>
  dsimp only [hasA, farA, zAC] at z1 z2 z3 hRy
  cases a with
  | none => exact absurd rfl ha
  | far =>
   dsimp only [farA, zAC, zAQ]
   clear hX hRy
   go_enter Tryz.func46, Tryz.ntmps46
   go_wp2
   go_ret
   exact ⟨rfl, .refl _ _⟩
  | is x =>
   have hx := hb x rfl
   have hy := hY y rfl
   dsimp only [farA, zAC, zAQ]
   have L := zPB (zDS x y xa ya xc yc w hX hRy (by omega) (by omega))
   clear hX hRy
   go_enter Tryz.func46, Tryz.ntmps46
   go_wp2_with (go_at_call 75; refine L.out.mono ?_; rintro e w1 ⟨rfl, hb⟩; have B1 := zPB hb; clear hb)
   go_ret
   exact ⟨rfl, B1.out⟩
theorem zM7 (a : Ans) : isA a = (hasA a && !farA a) := by cases a <;> rfl
def zN7 (a : Ans) (w : World) (e : Ending) (w' : World) : Prop :=
 ∃ ad c, e = .returned (.tuple #[.slice ad (zAC a).length c, .bool (isA a)]) /\ Sep.Reads ad (ivs (zAC a)) w' /\ Below w.heap.size w w' /\ (zAC a).length <= c
theorem zIJ (nl : Bool) (v : Value) (T : Int -> Ans) (l : List Int) (a : Option Addr) (c : Nat) (w : World) (h : RVAt nl v T w) (hR : Sep.Reads a (ivs l) w) (hl : l.length <= 17592186044416) :
  Calls Tryz.prog 28 #[v, .slice a l.length c] w (zN7 (zA3 nl T l) w) := by
 rcases h with ⟨rfl, rfl, rfl⟩ | ⟨rfl, p, q1, q2, q3, hi, n, f, rfl, h⟩
 ·clear hR
  go_enter Tryz.func28, Tryz.ntmps28
  go_wp2
  go_ret2
  exact ⟨none, 0, rfl, .nil _ _, .refl _ _, Nat.le_refl _⟩
 ·have JC := zPB (zEI p q1 q2 q3 hi n T f l a c w h hR hl)
  have E := zPB (show zA3 false T l = J T l from if_neg (by decide))
  rw [E.out]
  clear h hR E
  generalize J T l = j at *
  have EB := zPB (zM7 j)
  cases hh : hasA j <;> cases hf : farA j
  all_goals
   have EH := zPB hh
   have EF := zPB hf
   unfold RJc at JC
   rw [hh, hf] at JC
   clear hh hf
   go_enter Tryz.func28, Tryz.ntmps28
   go_wp2_with (go_at_call 45; refine JC.out.mono ?_; rintro e w1 ⟨ad, ac, rfl, hR, hN, hb, hcp⟩; have R1 := zPB hR; have B1 := zPB hb; have C1 := zPB hcp; clear hR hN hb hcp)
   go_ret2
   exact ⟨ad, ac, zHX (by rw [EB.out, EH.out, EF.out]; rfl), R1.out, B1.out, C1.out⟩
theorem zKC (nl : Bool) (v : Value) (T : Int -> Ans) (l : List Int) (a : Option Addr) (c : Nat) (w : World) (h : RVAt nl v T w) (hR : Sep.Reads a (ivs l) w) (hl : l.length <= 17592186044416) :
  Calls Tryz.prog 28 #[v, .slice a l.length c] w (zKu (zA3 nl T l) w) :=
 (zIJ nl v T l a c w h hR hl).mono fun _ _ ⟨ad, ac, h1, h2, h3, _⟩ => ⟨ad, ac, h1, h2, h3⟩
end Le
namespace Le
open Gr
open Rw (Bk)
theorem zDC : (Tryz.prog.info? 40).map (fun i => (i.zero, i.size, i.bytes)) = some (some (.slice none 0 0), 1, 24) := by kernel_rfl
theorem zJG : (Tryz.prog.info? 4).map (fun i => (i.zero, i.size, i.bytes)) = some (some (.bool false), 1, 1) := by kernel_rfl
theorem zDH (n : Nat) (hn : n <= 10000) (w : World) :
  (Instr.makeSlice 66 (.int .i64 (n : Int)) (.int .i64 (n : Int))).run Tryz.prog w = .ok (.slice (some ⟨w.heap.size, 0, none⟩) n n) (w.alloc (.cells (madeCells #[.slice none 0 0] n) 40)) :=
 run_make_row' 66 40 (.slice none 0 0) 24 Tryz.underlying66 zDC rfl .i64 .i64 n (by omega) (by omega) w
theorem zHy (n : Nat) (hn : n <= 10000) (w : World) :
  (Instr.makeSlice 71 (.int .i64 (n : Int)) (.int .i64 (n : Int))).run Tryz.prog w = .ok (.slice (some ⟨w.heap.size, 0, none⟩) n n) (w.alloc (.cells (madeCells #[.bool false] n) 4)) :=
 run_make_row' 71 4 (.bool false) 1 Tryz.underlying71 zJG rfl .i64 .i64 n (by omega) (by omega) w
theorem colA (n : Nat) (z : Value) (T : TypeId) (B C : Obj) (w : World) : Col w.heap.size n (fun _ => z) (((w.alloc (.cells (madeCells #[z] n) T)).alloc B).alloc C) := ((zF3 n z T w).went (boxed _ _)).went (boxed _ _)
theorem colB (n : Nat) (z : Value) (T : TypeId) (A C : Obj) (w : World) : Col (w.heap.size + 1) n (fun _ => z) (((w.alloc A).alloc (.cells (madeCells #[z] n) T)).alloc C) := by
 have := (zF3 n z T (w.alloc A)).went (boxed _ C)
 simpa using this
theorem colC (n : Nat) (z : Value) (T : TypeId) (A B : Obj) (w : World) : Col (w.heap.size + 1 + 1) n (fun _ => z) (((w.alloc A).alloc B).alloc (.cells (madeCells #[z] n) T)) := by
 have := zF3 n z T ((w.alloc A).alloc B)
 simpa using this
def RMid (W : World) (h : Sh) (G : Gram) (n : Nat) (s : Value) (w : World) : Prop :=
 ∃ p q1 q2 q3, s = .pointer (some ⟨p, 0, none⟩) /\ RAt p q1 q2 q3 (p + 1) n (fun _ => .none) (fun _ => .slice none 0 0) w /\ Bx W h G w /\ W.heap.size < q1 /\ W.heap.size < q2 /\ W.heap.size < q3
theorem RMid.of {W : World} {h : Sh} {G : Gram} {n : Nat} {w : World} {q1 q2 q3 : Nat} (X : Bx W h G w) (c1 : Col q1 n (fun _ => .slice none 0 0) w) (c2 : Col q2 n (fun _ => .bool false) w) (c3 : Col q3 n (fun _ => .bool false) w) (hn : n <= 10000)
  (d12 : q1 ≠ q2) (d13 : q1 ≠ q3) (d23 : q2 ≠ q3) (l1 : W.heap.size < q1) (l2 : W.heap.size < q2) (l3 : W.heap.size < q3) {m : Nat} (hm : m = w.heap.size) :
  RMid W h G n (.pointer (some ⟨m, 0, none⟩)) (w.alloc (.cells #[.slice (some ⟨q1, 0, none⟩) n n, .slice (some ⟨q2, 0, none⟩) n n, .slice (some ⟨q3, 0, none⟩) n n] 96)) := by
 subst hm
 have bx := boxed w (.cells #[.slice (some ⟨q1, 0, none⟩) n n, .slice (some ⟨q2, 0, none⟩) n n, .slice (some ⟨q3, 0, none⟩) n n] 96)
 have k1 := c1.lt
 have k2 := c2.lt
 have k3 := c3.lt
 exact ⟨w.heap.size, q1, q2, q3, rfl, ⟨Bk.new w _ _ _ rfl, c1.went bx, c2.went bx, c3.went bx, fun s _ => zN4 _ _, by omega, by omega, by omega, by omega, by simp, by omega, by omega, by omega, d12, d13, d23, hn, ⟨fun _ _ => rfl, fun _ => zEZ⟩⟩, X.went bx, l1, l2, l3⟩
theorem RMid.drew {W : World} {h : Sh} {G : Gram} {n : Nat} {s : Value} {w : World} (k : RMid W h G n s w) : RMid W h G n s w.drew := by
 obtain ⟨p, q1, q2, q3, h1, h2, h3, h4⟩ := k
 exact ⟨p, q1, q2, q3, h1, h2.went (drawn _), h3.went (drawn _), h4⟩
section
variable {p q1 q2 q3 hi n : Nat} {T U : Int -> Ans} {f g : Nat -> Value} {w w' : World}
theorem RAt.upd (h : RAt p q1 q2 q3 hi n T f w) (hF : Sep.Fr (fun k => k = q1 \/ k = q2 \/ k = q3) w w') (c1 : Col q1 n g w') (c2 : Col q2 n (fun s => .bool (hasA (U (s : Int)))) w') (c3 : Col q3 n (fun s => .bool (farA (U (s : Int)))) w')
  (hw : ∀ s : Nat, s < n -> WHi hi (zAC (U (s : Int))) (g s) w') (ok : TOk n U) : RAt p q1 q2 q3 hi n U g w' :=
 ⟨h.box.fr hF (by have := h.p1; have := h.p2; have := h.p3; omega), c1, c2, c3, hw, h.hp, h.h1, h.h2, h.h3, Nat.le_trans h.hw hF.size, h.p1, h.p2, h.p3, h.d12, h.d13, h.d23, h.small, ok⟩
end
def zA0 (j : Nat) : Int -> Ans := fun s => if s = 0 then .is [] else if 1 <= s /\ s < (j : Int) then .is [s] else .none
theorem zKa (G : Gram) : zA0 (G.terms.length + 1) = tab0 G := by
 funext s
 unfold zA0 tab0
 by_cases h0 : s = 0
 ·rw [if_pos h0, if_pos h0]
 ·rw [if_neg h0, if_neg h0]
  by_cases h : zBS G s = true
  ·have := zAR.1 h
   rw [if_pos h, if_pos (by omega)]
  ·rw [if_neg h, if_neg (fun k => h (zAR.2 (by omega)))]
theorem zMf {j n : Nat} (hj : j <= n) (hn : 0 < n) : TOk n (zA0 j) := by
 refine ⟨fun s hs => ?_, fun s x hx => ?_⟩
 ·unfold zA0
  rw [if_neg (by omega), if_neg (by omega)]
 ·unfold zA0 at hx
  split at hx
  ·injection hx with hx; subst hx; exact Nat.zero_le _
  ·split at hx
   ·injection hx with hx; subst hx; simp
   ·cases hx
theorem zKb (j : Nat) (hj : 1 <= j) : setA (zA0 j) (j : Int) (.is [(j : Int)]) = zA0 (j + 1) := by
 funext s
 by_cases e : s = (j : Int)
 ·subst e
  rw [zAq]
  unfold zA0
  rw [if_neg (by omega), if_pos (by omega)]
 ·rw [zAT _ _ e]
  unfold zA0
  by_cases h0 : s = 0
  ·rw [if_pos h0, if_pos h0]
  ·rw [if_neg h0, if_neg h0]
   by_cases h : 1 <= s /\ s < (j : Int)
   ·rw [if_pos h, if_pos (by omega)]
   ·rw [if_neg h, if_neg (by omega)]
theorem zLw {p q1 q2 q3 hi n : Nat} {f : Nat -> Value} {w : World} (h : RAt p q1 q2 q3 hi n (fun _ => .none) f w) (hn : 0 < n) : RAt p q1 q2 q3 hi n (zA0 1) f (w.setCell ⟨q2, 0, none⟩ (.bool true)) := by
 have hF : Sep.Fr (fun k => k = q1 \/ k = q2 \/ k = q3) w (w.setCell ⟨q2, 0, none⟩ (.bool true)) := (Sep.Fr.refl (fun k => k = q1 \/ k = q2 \/ k = q3) w).setCell ⟨q2, 0, none⟩ (.inr (.inl rfl)) _
 have e0 : zA0 1 0 = .is [] := if_pos rfl
 have e1 : ∀ t : Nat, t ≠ 0 -> zA0 1 (t : Int) = .none := fun t ht => by unfold zA0; rw [if_neg (by omega), if_neg (by omega)]
 refine h.upd hF (h.c1.off h.d12 _) ((h.c2.set hn _).congr fun t _ => ?_) ((h.c3.off (Ne.symm h.d23) _).congr fun t _ => ?_) (fun s hs => ?_) (zMf (by omega) hn)
 ·by_cases e : t = 0
  ·subst e
   rfl
  ·rw [if_neg e, e1 t e]
 ·by_cases e : t = 0
  ·subst e
   rfl
  ·rw [e1 t e]
 ·have k := h.word s hs
  have k2 := k.fr hF fun k hk => .inl (by have := h.h1; have := h.h2; have := h.h3; omega)
  by_cases e : s = 0
  ·subst e
   exact k2
  ·rw [e1 s e]
   exact k2
theorem zNe {p q1 q2 q3 hi n : Nat} {f : Nat -> Value} {w : World} {j : Nat} (h : RAt p q1 q2 q3 hi n (zA0 j) f w) (h1 : 1 <= j) (hj : j < n) :
  RAt p q1 q2 q3 hi n (zA0 (j + 1)) (fun t => if t = j then .slice (some ⟨w.heap.size, 0, none⟩) 1 1 else f t) (((w.setCell ⟨q1, j, none⟩ (.slice (some ⟨w.heap.size, 0, none⟩) 1 1)).setCell ⟨q2, j, none⟩ (.bool true)).alloc (.cells #[.int .i64 (j : Int)] 3)) := by
 have hF : Sep.Fr (fun k => k = q1 \/ k = q2 \/ k = q3) w (((w.setCell ⟨q1, j, none⟩ (.slice (some ⟨w.heap.size, 0, none⟩) 1 1)).setCell ⟨q2, j, none⟩ (.bool true)).alloc (.cells #[.int .i64 (j : Int)] 3)) :=
  (((Sep.Fr.refl (fun k => k = q1 \/ k = q2 \/ k = q3) w).setCell ⟨q1, j, none⟩ (.inl rfl) _).setCell ⟨q2, j, none⟩ (.inr (.inl rfl)) _).alloc _
 have hs2 : ((w.setCell ⟨q1, j, none⟩ (.slice (some ⟨w.heap.size, 0, none⟩) 1 1)).setCell ⟨q2, j, none⟩ (.bool true)).heap.size = w.heap.size := by rw [Rw.zAf, Rw.zAf]
 have bx := boxed ((w.setCell ⟨q1, j, none⟩ (.slice (some ⟨w.heap.size, 0, none⟩) 1 1)).setCell ⟨q2, j, none⟩ (.bool true)) (.cells #[.int .i64 (j : Int)] 3)
 have ej : zA0 (j + 1) (j : Int) = .is [(j : Int)] := by unfold zA0; rw [if_neg (by omega), if_pos (by omega)]
 have en : ∀ t : Nat, t ≠ j -> zA0 (j + 1) (t : Int) = zA0 j (t : Int) := fun t ht => by rw [← zKb j h1, zAT _ _ (by omega)]
 have eo : zA0 j (j : Int) = .none := by unfold zA0; rw [if_neg (by omega), if_neg (by omega)]
 have hhw := h.hw
 refine h.upd hF (((h.c1.set hj _).off h.d12 _).went bx) ((((h.c2.off (Ne.symm h.d12) _).set hj _).went bx).congr fun t _ => ?_) ((((h.c3.off (Ne.symm h.d13) _).off (Ne.symm h.d23) _).went bx).congr fun t _ => ?_) (fun s hs => ?_) (zMf (by omega) (by omega))
 ·by_cases e : t = j
  ·subst e
   rw [if_pos rfl, ej]
   rfl
  ·rw [if_neg e, en t e]
 ·by_cases e : t = j
  ·subst e
   rw [ej, eo]
   rfl
  ·rw [en t e]
 ·by_cases e : s = j
  ·subst e
   rw [if_pos rfl, ej]
   show WHi hi [(s : Int)] _ _
   refine ⟨_, 1, rfl, fun i hi => ⟨w.heap.size, 0, rfl, ?_⟩, fun b o e _ => ?_⟩
   ·have : i = 0 := by simp [ivs] at hi; omega
    subst this
    exact (Bk.new _ _ _ _ hs2.symm).cell rfl
   ·injection e with e
    injection e with e
    omega
  ·rw [if_neg e, en s e]
   exact (h.word s hs).fr hF fun k hk => .inl (by have := h.h1; have := h.h2; have := h.h3; omega)
structure RSt (W : World) (h : Sh) (G : Gram) (p q1 q2 q3 hi n : Nat) (T : Int -> Ans) (w : World) : Prop where
 x : Bx W h G w
 t : ∃ f, RAt p q1 q2 q3 hi n T f w
 l1 : W.heap.size < q1
 l2 : W.heap.size < q2
 l3 : W.heap.size < q3
section
variable {W : World} {h : Sh} {G : Gram} {p q1 q2 q3 hi n : Nat} {T U : Int -> Ans} {w w' : World}
theorem RSt.went (k : RSt W h G p q1 q2 q3 hi n T w) (hb : Below w.heap.size w w') : RSt W h G p q1 q2 q3 hi n T w' := by
 obtain ⟨f, hf⟩ := k.t
 exact ⟨k.x.went hb, ⟨f, hf.went hb⟩, k.l1, k.l2, k.l3⟩
theorem RSt.upd (k : RSt W h G p q1 q2 q3 hi n T w) (hF : Sep.Fr (fun k => k = q1 \/ k = q2 \/ k = q3) w w') {f : Nat -> Value} (ht : RAt p q1 q2 q3 hi n U f w') : RSt W h G p q1 q2 q3 hi n U w' :=
 ⟨zHi k.x hF fun i hi => by have := k.l1; have := k.l2; have := k.l3; omega, ⟨f, ht⟩, k.l1, k.l2, k.l3⟩
theorem RSt.zero (k : RSt W h G p q1 q2 q3 hi n (fun _ => .none) w) (hn : 0 < n) : RSt W h G p q1 q2 q3 hi n (zA0 1) (w.setCell ⟨q2, 0, none⟩ (.bool true)) := by
 obtain ⟨f, hf⟩ := k.t
 exact k.upd ((Sep.Fr.refl (fun k => k = q1 \/ k = q2 \/ k = q3) w).setCell ⟨q2, 0, none⟩ (.inr (.inl rfl)) _) (zLw hf hn)
theorem RSt.one {j : Nat} (k : RSt W h G p q1 q2 q3 hi n (zA0 j) w) (h1 : 1 <= j) (hj : j < n) :
  RSt W h G p q1 q2 q3 hi n (zA0 (j + 1)) (((w.setCell ⟨q1, j, none⟩ (.slice (some ⟨w.heap.size, 0, none⟩) 1 1)).setCell ⟨q2, j, none⟩ (.bool true)).alloc (.cells #[.int .i64 (j : Int)] 3)) := by
 obtain ⟨f, hf⟩ := k.t
 exact k.upd ((((Sep.Fr.refl (fun k => k = q1 \/ k = q2 \/ k = q3) w).setCell ⟨q1, j, none⟩ (.inl rfl) _).setCell ⟨q2, j, none⟩ (.inr (.inl rfl)) _).alloc _) (zNe hf h1 hj)
theorem RSt.put (k : RSt W h G p q1 q2 q3 hi n T w) {s : Nat} (hs : s < n) {a : Ans} (ha : Bd a) {v : Value} (hv : WHi hi (zAC a) v w) :
  RSt W h G p q1 q2 q3 hi n (setA T (s : Int) a) (((w.setCell ⟨q1, s, none⟩ v).setCell ⟨q2, s, none⟩ (.bool (hasA a))).setCell ⟨q3, s, none⟩ (.bool (farA a))) := by
 obtain ⟨f, hf⟩ := k.t
 exact k.upd ((((Sep.Fr.refl (fun k => k = q1 \/ k = q2 \/ k = q3) w).setCell ⟨q1, s, none⟩ (.inl rfl) _).setCell ⟨q2, s, none⟩ (.inr (.inl rfl)) _).setCell ⟨q3, s, none⟩ (.inr (.inr rfl)) _) (hf.set hs ha hv)
end
def zOr (W : World) (h : Sh) (G : Gram) (p q1 q2 q3 hi n : Nat) (i : Value) (w : World) : Prop :=
 ∃ j : Nat, 1 <= j /\ j <= G.terms.length + 1 /\ i = .int .i64 j /\ RSt W h G p q1 q2 q3 hi n (zA0 j) w
def ROut (W : World) (h : Sh) (G : Gram) (p q1 q2 q3 hi n g : Nat) (m : Value) (w : World) : Prop :=
 ∃ (b : Bool) (T : Int -> Ans), m = .bool b /\ RSt W h G p q1 q2 q3 hi n T w /\ Inv G T /\ (b = true -> zB8 G 4096 T n + 1 <= g) /\ (b = false -> Cls G 4096 T)
def RIn (W : World) (h : Sh) (G : Gram) (p q1 q2 q3 hi n : Nat) (T0 : Int -> Ans) (m i : Value) (w : World) : Prop :=
 ∃ (j : Nat) (b : Bool) (T : Int -> Ans), j <= G.rules.length /\ i = .int .i64 j /\ m = .bool b /\ RSt W h G p q1 q2 q3 hi n T w /\ Tried G n T0 j T b
end Le
namespace Le
open Gr
theorem zL1 (h : Sh) (G : Gram) (w : World) (k : GAt h G w) :
  Calls Tryz.prog 24 #[gv h G] w (fun e w' => ∃ v, e = .returned v /\ RVAt (nilB G) v (ansT G) w' /\ Below w.heap.size w w' /\ (nilB G = false -> (OkS G 4096 (ansT G) /\ Cls G 4096 (ansT G)) /\
   ∃ p q1 q2 q3 hi n f, v = .pointer (some ⟨p, 0, none⟩) /\ RAt p q1 q2 q3 hi n (ansT G) f w' /\ w.heap.size < q1 /\ w.heap.size < q2 /\ w.heap.size < q3)) := by
 obtain ⟨a1, c1, a2, c2, a3, c3⟩ := h
 have X := zPB (Bx.start ⟨a1, c1, a2, c2, a3, c3⟩ G w 25)
 have C := zPB (fun w1 (b : Below w.heap.size w w1) => zEH ⟨a1, c1, a2, c2, a3, c3⟩ G w1 (k.went b))
 have T1 := zPB (fun w1 (b : Below w.heap.size w w1) => zE2 ⟨a1, c1, a2, c2, a3, c3⟩ G w1 (k.went b))
 obtain ⟨x0, x1, x2, x3⟩ := X.out.box
 try dsimp only at x0 x1 x2 x3
 by_cases hc : checkN G = 0
 ·have SM := zPB (zMc hc)
  have KG := zPB k
  have AN := zPB (show nilB G = false /\ ansT G = zD8 G from ⟨by unfold nilB; rw [decide_eq_true hc]; rfl, by unfold ansT; rw [if_pos hc]⟩)
  have ht := SM.out.t
  have htop : top G <= 240 := by have := SM.out.n; unfold top; omega
  rw [hc] at C
  clear k hc
  unfold gv
  dsimp only
  go_enter Tryz.func24, Tryz.ntmps24
  go_upto_region 9 with (first
   | (go_at_call 30; refine (C.out _ X.out.below).mono ?_; rintro e w1 ⟨rfl, hb⟩; have X1 := zPB (X.out.went hb); clear hb x0 x1 x2 x3; obtain ⟨x0, x1, x2, x3⟩ := X1.out.box; try dsimp only at x0 x1 x2 x3)
   | (go_at_call 33; refine (T1.out _ X1.out.below).mono ?_; rintro e w2 ⟨rfl, hb⟩; have X2 := zPB (X1.out.went hb); clear hb x0 x1 x2 x3))
  have hm1 := fun w => show (Instr.makeSlice 66 (.int .i64 ((top G : Int) + 1)) (.int .i64 ((top G : Int) + 1))).run Tryz.prog w = _ from zDH (top G + 1) (by omega) w
  have hm2 := fun w => show (Instr.makeSlice 71 (.int .i64 ((top G : Int) + 1)) (.int .i64 ((top G : Int) + 1))).run Tryz.prog w = _ from zHy (top G + 1) (by omega) w
  go_cut [4] (fun s wx => RMid w ⟨a1, c1, a2, c2, a3, c3⟩ G (top G + 1) s wx)
  case first =>
   have hq2 : w.heap.size < w2.heap.size := X2.out.size
   go_region
   all_goals
    go_wp2_with fail
    go_meet
    case rel =>
     first
      | exact RMid.drew (RMid.of (((X2.out.alloc _).alloc _).alloc _) (by first | exact colA _ _ _ _ _ _ | exact colB _ _ _ _ _ _ | exact colC _ _ _ _ _ _) (by first | exact colA _ _ _ _ _ _ | exact colB _ _ _ _ _ _ | exact colC _ _ _ _ _ _) (by first | exact colA _ _ _ _ _ _ | exact colB _ _ _ _ _ _ | exact colC _ _ _ _ _ _) (by omega) (by omega) (by omega) (by omega) (by omega) (by omega) (by omega) (by simp))
  case rest =>
   obtain ⟨p, q1, q2, q3, rfl, hR, hX, l1, l2, l3⟩ := hcut
   obtain ⟨hi, hhi⟩ : ∃ hi, hi = p + 1 := ⟨_, rfl⟩
   rw [← hhi] at hR
   clear hhi hm1 hm2
   have S0 := zPB (show RSt w ⟨a1, c1, a2, c2, a3, c3⟩ G p q1 q2 q3 hi (top G + 1) (fun _ => .none) wc from ⟨hX, ⟨_, hR⟩, l1, l2, l3⟩)
   have S1 := zPB (S0.out.zero (by omega))
   obtain ⟨y0, y1, y2, yf⟩ := hR.box.three
   have z2 := hR.c2.at_ 0 (by omega)
   have zf := hR.c2.free
   have hpq : p ≠ q2 := hR.p2
   clear hR hX
   go_wp2
   clear y0 y1 y2 yf z2 zf S0 X1 X2 C T1
   go_loopw [5] (fun i wr => zOr w ⟨a1, c1, a2, c2, a3, c3⟩ G p q1 q2 q3 hi (top G + 1) i wr) (fun i _ => G.terms.length + 1 - (intOf i).toNat)
   case atStart => exact ⟨1, by omega, by omega, rfl, S1.out⟩
   case round =>
    clear S1
    obtain ⟨j, hj1, hj, rfl, hS⟩ := hrel
    have S := zPB hS
    clear hS
    obtain ⟨x0, x1, x2, x3⟩ := S.out.x.box
    try dsimp only at x0 x1 x2 x3
    by_cases hlt : j < G.terms.length + 1
    ·have hjn : j < top G + 1 := by unfold top; omega
     have S1 := zPB (S.out.one hj1 hjn)
     have S2 := zPB (show RSt w ⟨a1, c1, a2, c2, a3, c3⟩ G p q1 q2 q3 hi (top G + 1) (zA0 (j + 1)) (((wr.setCell ⟨q2, j, none⟩ (.bool true)).setCell ⟨q1, j, none⟩ (.slice (some ⟨wr.heap.size, 0, none⟩) 1 1)).alloc (.cells #[.int .i64 (j : Int)] 3)) by
      have := S1.out
      obtain ⟨f, hf⟩ := S.out.t
      rwa [zB1 _ _ _ _ _ _ _ hf.d12] at this)
     obtain ⟨f, hf⟩ := S.out.t
     obtain ⟨y0, y1, y2, yf⟩ := hf.box.three
     have z1 := hf.c1.at_ j hjn
     have z2 := hf.c2.at_ j hjn
     have zf1 := hf.c1.free
     have zf2 := hf.c2.free
     have e1 := hf.p1
     have e2 := hf.p2
     have e3 := hf.d12
     have e4 := Ne.symm hf.d12
     have k1 : q1 < wr.heap.size := hf.c1.lt
     have k2 : q2 < wr.heap.size := hf.c2.lt
     have k0 : p < wr.heap.size := hf.box.lt
     clear hf
     have hdc : decide ((j : Int) <= (G.terms.length : Int)) = true := decide_eq_true (by omega)
     have i0 : (0 : Int) <= (j : Int) := by omega
     have i1 : (j : Int) < (top G : Int) + 1 := by omega
     have HQ := zPB (show ∀ w', Sep.Fr (fun k => k = q1 \/ k = q2) wr w' -> w'.cell? ⟨p, 0, none⟩ = some (.slice (some ⟨q1, 0, none⟩) (top G + 1) (top G + 1)) /\ w'.cell? ⟨p, 1, none⟩ = some (.slice (some ⟨q2, 0, none⟩) (top G + 1) (top G + 1)) from
      fun w' hF => ⟨hF.cell y0 (by simp; omega), hF.cell y1 (by simp; omega)⟩)
     go_wp2
     go_region_held3 (fun w' => w'.cell? ⟨p, 0, none⟩ = some (.slice (some ⟨q1, 0, none⟩) (top G + 1) (top G + 1)) /\ w'.cell? ⟨p, 1, none⟩ = some (.slice (some ⟨q2, 0, none⟩) (top G + 1) (top G + 1))) ((refine HQ.out _ ?_; repeat (first | exact Sep.Fr.refl _ _ | refine Sep.Fr.drew ?_ | refine Sep.Fr.alloc ?_ _ | refine Sep.Fr.setCell ?_ _ (Or.inl rfl) _ | refine Sep.Fr.setCell ?_ _ (Or.inr rfl) _))) (fail)
     all_goals
      go_wp2
      go_roundw
      case rel => exact ⟨j + 1, by omega, by omega, by go_num, by first | exact S1.out.went (drawn _) | exact S2.out.went (drawn _)⟩
      case measure => simp [intOf]; omega
    ·have hE : j = G.terms.length + 1 := by omega
     have S1 := zPB (show RSt w ⟨a1, c1, a2, c2, a3, c3⟩ G p q1 q2 q3 hi (top G + 1) (tab0 G) wr by
      have := S.out
      rwa [hE, zKa] at this)
     have hdc : decide ((j : Int) <= (G.terms.length : Int)) = false := decide_eq_false (by omega)
     have HN := zPB (show top G = G.terms.length + G.nons.length from rfl)
     clear S hE
     go_wp2
     have hz : decide (j <= G.terms.length) = false := decide_eq_false (by omega)
     rw [hz]
     clear x0 x1 x2 x3 hdc hlt hj hj1 hz
     go_loopg [6] (zB8 G 4096 (tab0 G) (top G + 1) + 1) (fun g m wr => ROut w ⟨a1, c1, a2, c2, a3, c3⟩ G p q1 q2 q3 hi (top G + 1) g m wr)
     case atStart => exact ⟨true, _, rfl, S1.out, zGr G, fun _ => Nat.le_refl _, fun h => by cases h⟩
     case round =>
      clear S1
      obtain ⟨b, T, rfl, hS, hI, hg, hcl⟩ := hrel
      have S := zPB hS
      have IV := zPB hI
      cases b with
      | false =>
       have E := zPB (zEo hI.ok (hcl rfl))
       have OC := zPB (show OkS G 4096 T /\ Cls G 4096 T from ⟨hI.ok, hcl rfl⟩)
       obtain ⟨f, hf⟩ := hS.t
       have F := zPB hf
       clear hS hI hg hcl hf
       go_wp2
       go_ret
       exact ⟨_, rfl, .inr ⟨AN.out.1, p, q1, q2, q3, hi, top G + 1, f, rfl, by rw [AN.out.2, ← E.out]; exact F.out⟩, S.out.x.below, fun _ => ⟨by rw [AN.out.2, ← E.out]; exact OC.out, p, q1, q2, q3, hi, top G + 1, f, rfl, by rw [AN.out.2, ← E.out]; exact F.out, S.out.l1, S.out.l2, S.out.l3⟩⟩
      | true =>
       have GG := zPB (hg rfl)
       have V0 := zPB (zES (n := top G + 1) hI)
       clear hS hI hg hcl
       go_wp2
       go_loopw [6, 7] (fun m i wr => RIn w ⟨a1, c1, a2, c2, a3, c3⟩ G p q1 q2 q3 hi (top G + 1) T m i wr) (fun _ i _ => G.rules.length - (intOf i).toNat)
       case atStart => exact ⟨0, false, T, Nat.zero_le _, rfl, rfl, S.out, V0.out⟩
       case round =>
        clear S V0
        obtain ⟨k, b, U, hk, rfl, rfl, hS, hV⟩ := hrel
        have S := zPB hS
        have V := zPB hV
        clear hS hV
        obtain ⟨x0, x1, x2, x3⟩ := S.out.x.box
        try dsimp only at x0 x1 x2 x3
        by_cases hlr : k < G.rules.length
        ·obtain ⟨bb, o, ra, rc, e, h1, h2, h3, h4, h5⟩ := KG.out.rules k hlr
         try dsimp only at e
         subst e
         have hnn : nonB G G.rules[k].1 = true := by have := zCL SM.out.known hlr; rwa [zBT hlr] at this
         have SK := zPB (V.out.skip hlr)
         have PU := zPB (fun a b => V.out.put hlr hnn a b)
         have hr8 := SM.out.w _ (List.getElem_mem hlr)
         have hrr := SM.out.r
         have hr1 := KG.out.r1
         generalize G.rules[k] = r at h1 h2 h3 h4 h5 hnn SK PU hr8
         obtain ⟨left, R⟩ := r
         dsimp only at h1 h2 h3 h4 h5 hnn SK PU hr8
         rw [zAY] at hnn
         obtain ⟨s, rfl⟩ : ∃ s : Nat, left = (s : Int) := ⟨left.toNat, by omega⟩
         have hsn : s < top G + 1 := by have := HN.out; omega
         have PU := zPB (PU.out (by omega) (by omega))
         have H1 := zPB (cell_later S.out.x.below h1)
         have g2 := cell_later S.out.x.below h2
         obtain ⟨f, hf⟩ := S.out.t
         have JC := zPB (zKB p q1 q2 q3 hi (top G + 1) U f R ra rc wr hf (Sep.Reads.below h3 S.out.x.below (Nat.le_refl _)) (by omega))
         have hhw := hf.hw
         clear hf h1 h2 h3 hnn
         have bdJ := zA1 U R
         generalize J U R = aj at *
         cases hh : hasA aj with
         | false =>
          have V1 := zPB (SK.out (by cases aj <;> first | rfl | cases hh))
          unfold RJd at JC
          rw [hh] at JC
          clear hh SK PU
          have h1 := H1.out
          go_wp2_with (go_at_call 45; refine JC.out.mono ?_; rintro e w3 ⟨ad, ac, rfl, hR, hN, hb⟩; have S3 := zPB (S.out.went hb); have h1 := cell_later hb H1.out; clear x0 x1 x2 x3; obtain ⟨x0, x1, x2, x3⟩ := S3.out.x.box; (try dsimp only at x0 x1 x2 x3); clear hR hN hb)
          go_roundw
          case rel => exact ⟨k + 1, b, U, by omega, by go_num, rfl, S3.out, V1.out⟩
          case measure => simp [intOf]; omega
         | true =>
          have ne : aj ≠ .none := fun e => by subst e; cases hh
          have HH := zPB hh
          unfold RJd at JC
          rw [hh] at JC
          clear hh
          have h1 := H1.out
          cases hbt : zAQ aj (U (s : Int)) with
          | false =>
           have V1 := zPB (SK.out hbt)
           have HB := zPB hbt
           clear hbt SK PU
           go_wp2_with (first
            | (go_at_call 45; refine JC.out.mono ?_; rintro e w3 ⟨ad, ac, rfl, hR, hN, hb⟩; have S3 := zPB (S.out.went hb); have h1 := cell_later hb H1.out; clear x0 x1 x2 x3; obtain ⟨x0, x1, x2, x3⟩ := S3.out.x.box; (try dsimp only at x0 x1 x2 x3); obtain ⟨f3, hf3⟩ := S3.out.t; have BC := zPB (zDQ p q1 q2 q3 hi (top G + 1) U f3 s aj ad ac w3 hf3 hsn ne bdJ hR); rw [HB.out] at BC; clear hR hN hb hf3)
            | (go_at_call 46; refine BC.out.mono ?_; rintro e w4 ⟨rfl, hb⟩; have S4 := zPB (S3.out.went hb); clear hb))
           go_roundw
           case rel => exact ⟨k + 1, b, U, by omega, by go_num, rfl, S4.out, V1.out⟩
           case measure => simp [intOf]; omega
          | true =>
           have V1 := zPB (PU.out hbt)
           have HB := zPB hbt
           clear hbt SK PU
           go_wp2_with (first
            | (go_at_call 45; refine JC.out.mono ?_; rintro e w3 ⟨ad, ac, rfl, hR, hN, hb⟩; have S3 := zPB (S.out.went hb); have h1 := cell_later hb H1.out; clear x0 x1 x2 x3; obtain ⟨x0, x1, x2, x3⟩ := S3.out.x.box; (try dsimp only at x0 x1 x2 x3); obtain ⟨f3, hf3⟩ := S3.out.t; have BC := zPB (zDQ p q1 q2 q3 hi (top G + 1) U f3 s aj ad ac w3 hf3 hsn ne bdJ hR); rw [HB.out] at BC; have RD := zPB hR; have ND := zPB (show ∀ b o, ad = some ⟨b, o, none⟩ -> hi <= b from fun b o e => Nat.le_trans hhw (hN _ e)); clear hR hN hb hf3)
            | (go_at_call 46; refine BC.out.mono ?_; rintro e w4 ⟨rfl, hb⟩; have S4 := zPB (S3.out.went hb); have R4 := zPB (RD.out.below hb (Nat.le_refl _)); clear hb))
           obtain ⟨f4, hf4⟩ := S4.out.t
           have P123 := zPB (S4.out.put hsn bdJ (show WHi hi (zAC aj) (.slice ad (zAC aj).length ac) w4 from ⟨ad, ac, rfl, R4.out, fun b o e _ => ND.out b o e⟩))
           rw [HH.out] at P123
           have e12 := hf4.d12
           have e13 := hf4.d13
           have e23 := hf4.d23
           have e21 := Ne.symm e12
           have e31 := Ne.symm e13
           have e32 := Ne.symm e23
           have P213 := P123.out
           rw [zB1 w4 q1 q2 s s _ _ e12] at P213
           have P132 := P123.out
           rw [zB1 (w4.setCell ⟨q1, s, none⟩ _) q2 q3 s s _ _ e23] at P132
           have P312 := P132
           rw [zB1 w4 q1 q3 s s _ _ e13] at P312
           have P231 := P213
           rw [zB1 (w4.setCell ⟨q2, s, none⟩ _) q1 q3 s s _ _ e13] at P231
           have P321 := P312
           rw [zB1 (w4.setCell ⟨q3, s, none⟩ _) q1 q2 s s _ _ e12] at P321
           have Q213 := zPB P213
           have Q132 := zPB P132
           have Q312 := zPB P312
           have Q231 := zPB P231
           have Q321 := zPB P321
           clear P213 P132 P312 P231 P321
           obtain ⟨y0, y1, y2, yf⟩ := hf4.box.three
           have z1 := hf4.c1.at_ s hsn
           have z2 := hf4.c2.at_ s hsn
           have z3 := hf4.c3.at_ s hsn
           have zf1 := hf4.c1.free
           have zf2 := hf4.c2.free
           have zf3 := hf4.c3.free
           have k1 : q1 < w4.heap.size := hf4.c1.lt
           have k2 : q2 < w4.heap.size := hf4.c2.lt
           have k3 : q3 < w4.heap.size := hf4.c3.lt
           have k0 : p < w4.heap.size := hf4.box.lt
           have n1 := hf4.p1
           have n2 := hf4.p2
           have n3 := hf4.p3
           have i0 : (0 : Int) <= (s : Int) := by omega
           have i1 : (s : Int) < (top G : Int) + 1 := by omega
           have HQ := zPB (show ∀ w', Sep.Fr (fun k => k = q1 \/ k = q2 \/ k = q3) w4 w' -> w'.cell? ⟨p, 0, none⟩ = some (.slice (some ⟨q1, 0, none⟩) (top G + 1) (top G + 1)) /\ w'.cell? ⟨p, 1, none⟩ = some (.slice (some ⟨q2, 0, none⟩) (top G + 1) (top G + 1)) /\ w'.cell? ⟨p, 2, none⟩ = some (.slice (some ⟨q3, 0, none⟩) (top G + 1) (top G + 1)) from
            fun w' hF => ⟨hF.cell y0 (by simp; omega), hF.cell y1 (by simp; omega), hF.cell y2 (by simp; omega)⟩)
           clear hf4
           go_region_held3 (fun w' => w'.cell? ⟨p, 0, none⟩ = some (.slice (some ⟨q1, 0, none⟩) (top G + 1) (top G + 1)) /\ w'.cell? ⟨p, 1, none⟩ = some (.slice (some ⟨q2, 0, none⟩) (top G + 1) (top G + 1)) /\ w'.cell? ⟨p, 2, none⟩ = some (.slice (some ⟨q3, 0, none⟩) (top G + 1) (top G + 1)))
            ((refine HQ.out _ ?_; repeat (first | exact Sep.Fr.refl _ _ | refine Sep.Fr.drew ?_ | refine Sep.Fr.alloc ?_ _ | refine Sep.Fr.setCell ?_ _ (Or.inl rfl) _ | refine Sep.Fr.setCell ?_ _ (Or.inr (Or.inl rfl)) _ | refine Sep.Fr.setCell ?_ _ (Or.inr (Or.inr rfl)) _))) (fail)
           all_goals
            go_wp2
            go_roundw
            case rel => exact ⟨k + 1, true, _, by omega, by go_num, rfl, by first | exact P123.out.went (drawn _) | exact Q213.out.went (drawn _) | exact Q132.out.went (drawn _) | exact Q312.out.went (drawn _) | exact Q231.out.went (drawn _) | exact Q321.out.went (drawn _), V1.out⟩
            case measure => simp [intOf]; omega
        ·have E := zPB (V.out.all hlr)
         have hg := GG.out
         go_wp2
         go_roundg (zB8 G 4096 T (top G + 1))
         case measure => omega
         case rel => exact ⟨b, U, rfl, S.out, E.out.inv, fun h => E.out.yes h, E.out.no⟩
 ·have AN := zPB (show nilB G = true /\ ansT G = fun _ => Ans.none from ⟨by unfold nilB; rw [decide_eq_false hc]; rfl, by unfold ansT; rw [if_neg hc]⟩)
  have hb : (checkN G != 0) = true := by simpa using hc
  clear k hc
  generalize checkN G = ck at *
  unfold gv
  dsimp only
  go_enter Tryz.func24, Tryz.ntmps24
  go_wp2_with (go_at_call 30; refine (C.out _ X.out.below).mono ?_; rintro e w1 ⟨rfl, hb⟩; have X1 := zPB (X.out.went hb); clear hb)
  go_ret
  exact ⟨_, rfl, .inl ⟨AN.out.1, rfl, AN.out.2⟩, X1.out.below, fun h => by rw [AN.out.1] at h; cases h⟩
