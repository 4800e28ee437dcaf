/-
  The plain answers of layer 10: what stands in memory while Of makes the words. No condition.
-/
import Derived.Test.YtoipinnfmjaaaaaDoorLeastRTell
import Derived.Test.YtoipinnfmjaaaaaDoorMMuch
import Derived.Deep.LoopGhost
import Derived.Deep.DeepCutAuto
import Derived.Deep.OwnRows
import Derived.RegionTactic
import Derived.BigRegion
namespace Go.Proofs.YtoipinnfmjaaaaaDoor.Le
open Go.RowKit Go.Maps
open Go.Proofs.YtoipinnfmjaaaaaDoor.Gr
open Go.Proofs.YtoipinnfmjaaaaaDoor.Rw (Bk IntsV row_shape)
set_option linter.unusedVariables false

theorem info_ints : (Tryd.prog.info? 32).map (fun i => (i.zero, i.size, i.bytes)) = some (some (.slice none 0 0), 1, 24) := by kernel_rfl
theorem info_bool : (Tryd.prog.info? 4).map (fun i => (i.zero, i.size, i.bytes)) = some (some (.bool false), 1, 1) := by kernel_rfl
theorem make_rows (n : Nat) (hn : n ≤ 10000) (w : World) :
    (Instr.makeSlice 59 (.int .i64 (n : Int)) (.int .i64 (n : Int))).run Tryd.prog w = .ok (.slice (some ⟨w.heap.size, 0, none⟩) n n) (w.alloc (.cells (madeCells #[.slice none 0 0] n) 32)) :=
  run_make_row' 59 32 (.slice none 0 0) 24 Tryd.underlying59 info_ints rfl .i64 .i64 n (by omega) (by omega) w
theorem make_bools (n : Nat) (hn : n ≤ 10000) (w : World) :
    (Instr.makeSlice 60 (.int .i64 (n : Int)) (.int .i64 (n : Int))).run Tryd.prog w = .ok (.slice (some ⟨w.heap.size, 0, none⟩) n n) (w.alloc (.cells (madeCells #[.bool false] n) 4)) :=
  run_make_row' 60 4 (.bool false) 1 Tryd.underlying60 info_bool rfl .i64 .i64 n (by omega) (by omega) w

theorem colA (n : Nat) (z : Value) (T : TypeId) (B C : Obj) (w : World) : Col w.heap.size n (fun _ => z) (((w.alloc (.cells (madeCells #[z] n) T)).alloc B).alloc C) := ((col_new n z T w).went (boxed _ _)).went (boxed _ _)
theorem colB (n : Nat) (z : Value) (T : TypeId) (A C : Obj) (w : World) : Col (w.heap.size + 1) n (fun _ => z) (((w.alloc A).alloc (.cells (madeCells #[z] n) T)).alloc C) := by
  have := (col_new n z T (w.alloc A)).went (boxed _ C)
  simpa using this
theorem colC (n : Nat) (z : Value) (T : TypeId) (A B : Obj) (w : World) : Col (w.heap.size + 1 + 1) n (fun _ => z) (((w.alloc A).alloc B).alloc (.cells (madeCells #[z] n) T)) := by
  have := col_new n z T ((w.alloc A).alloc B)
  simpa using this
/-- What it is behind making the three lists. -/
def RMid (W : World) (h : Sh) (G : Gram) (n : Nat) (s : Value) (w : World) : Prop :=
  ∃ p q1 q2 q3, s = .pointer (some ⟨p, 0, none⟩) ∧ RAt p q1 q2 q3 (p + 1) n (fun _ => .none) (fun _ => .slice none 0 0) w ∧ Bx W h G w ∧ W.heap.size < q1 ∧ W.heap.size < q2 ∧ W.heap.size < q3
theorem RMid.of {W : World} {h : Sh} {G : Gram} {n : Nat} {w : World} {q1 q2 q3 : Nat} (X : Bx W h G w) (c1 : Col q1 n (fun _ => .slice none 0 0) w) (c2 : Col q2 n (fun _ => .bool false) w) (c3 : Col q3 n (fun _ => .bool false) w) (hn : n ≤ 10000)
    (d12 : q1 ≠ q2) (d13 : q1 ≠ q3) (d23 : q2 ≠ q3) (l1 : W.heap.size < q1) (l2 : W.heap.size < q2) (l3 : W.heap.size < q3) {m : Nat} (hm : m = w.heap.size) :
    RMid W h G n (.pointer (some ⟨m, 0, none⟩)) (w.alloc (.cells #[.slice (some ⟨q1, 0, none⟩) n n, .slice (some ⟨q2, 0, none⟩) n n, .slice (some ⟨q3, 0, none⟩) n n] 62)) := by
  subst hm
  have bx := boxed w (.cells #[.slice (some ⟨q1, 0, none⟩) n n, .slice (some ⟨q2, 0, none⟩) n n, .slice (some ⟨q3, 0, none⟩) n n] 62)
  have k1 := c1.lt
  have k2 := c2.lt
  have k3 := c3.lt
  exact ⟨w.heap.size, q1, q2, q3, rfl, ⟨Bk.new w _ _ _ rfl, c1.went bx, c2.went bx, c3.went bx, fun s _ => whi_nil _ _, by omega, by omega, by omega, by omega, by simp, by omega, by omega, by omega, d12, d13, d23, hn, ⟨fun _ _ => rfl, fun _ => bd_none⟩⟩, X.went bx, l1, l2, l3⟩

theorem RMid.drew {W : World} {h : Sh} {G : Gram} {n : Nat} {s : Value} {w : World} (k : RMid W h G n s w) : RMid W h G n s w.drew := by
  obtain ⟨p, q1, q2, q3, h1, h2, h3, h4⟩ := k
  exact ⟨p, q1, q2, q3, h1, h2.went (drawn _), h3.went (drawn _), h4⟩

section
variable {p q1 q2 q3 hi n : Nat} {T U : Int → Ans} {f g : Nat → Value} {w w' : World}
theorem RAt.upd (h : RAt p q1 q2 q3 hi n T f w) (hF : Sep.Fr (fun k => k = q1 ∨ k = q2 ∨ k = q3) w w') (c1 : Col q1 n g w') (c2 : Col q2 n (fun s => .bool (hasA (U (s : Int)))) w') (c3 : Col q3 n (fun s => .bool (farA (U (s : Int)))) w')
    (hw : ∀ s : Nat, s < n → WHi hi (wordA (U (s : Int))) (g s) w') (ok : TOk n U) : RAt p q1 q2 q3 hi n U g w' :=
  ⟨h.box.fr hF (by have := h.p1; have := h.p2; have := h.p3; omega), c1, c2, c3, hw, h.hp, h.h1, h.h2, h.h3, Nat.le_trans h.hw hF.size, h.p1, h.p2, h.p3, h.d12, h.d13, h.d23, h.small, ok⟩
end

/-- The table as the loop leaves it ahead of terminal j. -/
def tabUp (j : Nat) : Int → Ans := fun s => if s = 0 then .is [] else if 1 ≤ s ∧ s < (j : Int) then .is [s] else .none
theorem tabUp_end (G : Gram) : tabUp (G.terms.length + 1) = tab0 G := by
  funext s
  unfold tabUp tab0
  by_cases h0 : s = 0
  · rw [if_pos h0, if_pos h0]
  · rw [if_neg h0, if_neg h0]
    by_cases h : termB G s = true
    · have := termB_iff.1 h
      rw [if_pos h, if_pos (by omega)]
    · rw [if_neg h, if_neg (fun k => h (termB_iff.2 (by omega)))]
theorem tok_up {j n : Nat} (hj : j ≤ n) (hn : 0 < n) : TOk n (tabUp j) := by
  refine ⟨fun s hs => ?_, fun s x hx => ?_⟩
  · unfold tabUp
    rw [if_neg (by omega), if_neg (by omega)]
  · unfold tabUp at hx
    split at hx
    · injection hx with hx; subst hx; exact Nat.zero_le _
    · split at hx
      · injection hx with hx; subst hx; simp
      · cases hx
theorem tabUp_set (j : Nat) (hj : 1 ≤ j) : setA (tabUp j) (j : Int) (.is [(j : Int)]) = tabUp (j + 1) := by
  funext s
  by_cases e : s = (j : Int)
  · subst e
    rw [setA_hit]
    unfold tabUp
    rw [if_neg (by omega), if_pos (by omega)]
  · rw [setA_miss _ _ e]
    unfold tabUp
    by_cases h0 : s = 0
    · rw [if_pos h0, if_pos h0]
    · rw [if_neg h0, if_neg h0]
      by_cases h : 1 ≤ s ∧ s < (j : Int)
      · rw [if_pos h, if_pos (by omega)]
      · rw [if_neg h, if_neg (by omega)]
theorem rat_zero {p q1 q2 q3 hi n : Nat} {f : Nat → Value} {w : World} (h : RAt p q1 q2 q3 hi n (fun _ => .none) f w) (hn : 0 < n) : RAt p q1 q2 q3 hi n (tabUp 1) f (w.setCell ⟨q2, 0, none⟩ (.bool true)) := by
  have hF : Sep.Fr (fun k => k = q1 ∨ k = q2 ∨ k = q3) w (w.setCell ⟨q2, 0, none⟩ (.bool true)) := (Sep.Fr.refl (fun k => k = q1 ∨ k = q2 ∨ k = q3) w).setCell ⟨q2, 0, none⟩ (.inr (.inl rfl)) _
  have e0 : tabUp 1 0 = .is [] := if_pos rfl
  have e1 : ∀ t : Nat, t ≠ 0 → tabUp 1 (t : Int) = .none := fun t ht => by unfold tabUp; rw [if_neg (by omega), if_neg (by omega)]
  refine h.upd hF (h.c1.off h.d12 _) ((h.c2.set hn _).congr fun t _ => ?_) ((h.c3.off (Ne.symm h.d23) _).congr fun t _ => ?_) (fun s hs => ?_) (tok_up (by omega) hn)
  · by_cases e : t = 0
    · subst e
      rfl
    · rw [if_neg e, e1 t e]
  · by_cases e : t = 0
    · subst e
      rfl
    · rw [e1 t e]
  · have k := h.word s hs
    have k2 := k.fr hF fun k hk => .inl (by have := h.h1; have := h.h2; have := h.h3; omega)
    by_cases e : s = 0
    · subst e
      exact k2
    · rw [e1 s e]
      exact k2
theorem rat_one {p q1 q2 q3 hi n : Nat} {f : Nat → Value} {w : World} {j : Nat} (h : RAt p q1 q2 q3 hi n (tabUp j) f w) (h1 : 1 ≤ j) (hj : j < n) :
    RAt p q1 q2 q3 hi n (tabUp (j + 1)) (fun t => if t = j then .slice (some ⟨w.heap.size, 0, none⟩) 1 1 else f t) (((w.setCell ⟨q1, j, none⟩ (.slice (some ⟨w.heap.size, 0, none⟩) 1 1)).setCell ⟨q2, j, none⟩ (.bool true)).alloc (.cells #[.int .i64 (j : Int)] 3)) := by
  have hF : Sep.Fr (fun k => k = q1 ∨ k = q2 ∨ k = q3) w (((w.setCell ⟨q1, j, none⟩ (.slice (some ⟨w.heap.size, 0, none⟩) 1 1)).setCell ⟨q2, j, none⟩ (.bool true)).alloc (.cells #[.int .i64 (j : Int)] 3)) :=
    (((Sep.Fr.refl (fun k => k = q1 ∨ k = q2 ∨ k = q3) w).setCell ⟨q1, j, none⟩ (.inl rfl) _).setCell ⟨q2, j, none⟩ (.inr (.inl rfl)) _).alloc _
  have hs2 : ((w.setCell ⟨q1, j, none⟩ (.slice (some ⟨w.heap.size, 0, none⟩) 1 1)).setCell ⟨q2, j, none⟩ (.bool true)).heap.size = w.heap.size := by rw [Rw.set_size, Rw.set_size]
  have bx := boxed ((w.setCell ⟨q1, j, none⟩ (.slice (some ⟨w.heap.size, 0, none⟩) 1 1)).setCell ⟨q2, j, none⟩ (.bool true)) (.cells #[.int .i64 (j : Int)] 3)
  have ej : tabUp (j + 1) (j : Int) = .is [(j : Int)] := by unfold tabUp; rw [if_neg (by omega), if_pos (by omega)]
  have en : ∀ t : Nat, t ≠ j → tabUp (j + 1) (t : Int) = tabUp j (t : Int) := fun t ht => by rw [← tabUp_set j h1, setA_miss _ _ (by omega)]
  have eo : tabUp j (j : Int) = .none := by unfold tabUp; rw [if_neg (by omega), if_neg (by omega)]
  have hhw := h.hw
  refine h.upd hF (((h.c1.set hj _).off h.d12 _).went bx) ((((h.c2.off (Ne.symm h.d12) _).set hj _).went bx).congr fun t _ => ?_) ((((h.c3.off (Ne.symm h.d13) _).off (Ne.symm h.d23) _).went bx).congr fun t _ => ?_) (fun s hs => ?_) (tok_up (by omega) (by omega))
  · by_cases e : t = j
    · subst e
      rw [if_pos rfl, ej]
      rfl
    · rw [if_neg e, en t e]
  · by_cases e : t = j
    · subst e
      rw [ej, eo]
      rfl
    · rw [en t e]
  · by_cases e : s = j
    · subst e
      rw [if_pos rfl, ej]
      show WHi hi [(s : Int)] _ _
      refine ⟨_, 1, rfl, fun i hi => ⟨w.heap.size, 0, rfl, ?_⟩, fun b o e _ => ?_⟩
      · have : i = 0 := by simp [ivs] at hi; omega
        subst this
        exact (Bk.new _ _ _ _ hs2.symm).cell rfl
      · injection e with e
        injection e with e
        omega
    · rw [if_neg e, en s e]
      exact (h.word s hs).fr hF fun k hk => .inl (by have := h.h1; have := h.h2; have := h.h3; omega)

/-- Behind the box of a grammar and the three lists. -/
structure RSt (W : World) (h : Sh) (G : Gram) (p q1 q2 q3 hi n : Nat) (T : Int → Ans) (w : World) : Prop where
  x : Bx W h G w
  t : ∃ f, RAt p q1 q2 q3 hi n T f w
  l1 : W.heap.size < q1
  l2 : W.heap.size < q2
  l3 : W.heap.size < q3
section
variable {W : World} {h : Sh} {G : Gram} {p q1 q2 q3 hi n : Nat} {T U : Int → Ans} {w w' : World}
theorem RSt.went (k : RSt W h G p q1 q2 q3 hi n T w) (hb : Below w.heap.size w w') : RSt W h G p q1 q2 q3 hi n T w' := by
  obtain ⟨f, hf⟩ := k.t
  exact ⟨k.x.went hb, ⟨f, hf.went hb⟩, k.l1, k.l2, k.l3⟩
theorem RSt.upd (k : RSt W h G p q1 q2 q3 hi n T w) (hF : Sep.Fr (fun k => k = q1 ∨ k = q2 ∨ k = q3) w w') {f : Nat → Value} (ht : RAt p q1 q2 q3 hi n U f w') : RSt W h G p q1 q2 q3 hi n U w' :=
  ⟨bx_fr k.x hF fun i hi => by have := k.l1; have := k.l2; have := k.l3; omega, ⟨f, ht⟩, k.l1, k.l2, k.l3⟩
theorem RSt.zero (k : RSt W h G p q1 q2 q3 hi n (fun _ => .none) w) (hn : 0 < n) : RSt W h G p q1 q2 q3 hi n (tabUp 1) (w.setCell ⟨q2, 0, none⟩ (.bool true)) := by
  obtain ⟨f, hf⟩ := k.t
  exact k.upd ((Sep.Fr.refl (fun k => k = q1 ∨ k = q2 ∨ k = q3) w).setCell ⟨q2, 0, none⟩ (.inr (.inl rfl)) _) (rat_zero hf hn)
theorem RSt.one {j : Nat} (k : RSt W h G p q1 q2 q3 hi n (tabUp j) w) (h1 : 1 ≤ j) (hj : j < n) :
    RSt W h G p q1 q2 q3 hi n (tabUp (j + 1)) (((w.setCell ⟨q1, j, none⟩ (.slice (some ⟨w.heap.size, 0, none⟩) 1 1)).setCell ⟨q2, j, none⟩ (.bool true)).alloc (.cells #[.int .i64 (j : Int)] 3)) := by
  obtain ⟨f, hf⟩ := k.t
  exact k.upd ((((Sep.Fr.refl (fun k => k = q1 ∨ k = q2 ∨ k = q3) w).setCell ⟨q1, j, none⟩ (.inl rfl) _).setCell ⟨q2, j, none⟩ (.inr (.inl rfl)) _).alloc _) (rat_one hf h1 hj)
theorem RSt.put (k : RSt W h G p q1 q2 q3 hi n T w) {s : Nat} (hs : s < n) {a : Ans} (ha : Bd a) {v : Value} (hv : WHi hi (wordA a) v w) :
    RSt W h G p q1 q2 q3 hi n (setA T (s : Int) a) (((w.setCell ⟨q1, s, none⟩ v).setCell ⟨q2, s, none⟩ (.bool (hasA a))).setCell ⟨q3, s, none⟩ (.bool (farA a))) := by
  obtain ⟨f, hf⟩ := k.t
  exact k.upd ((((Sep.Fr.refl (fun k => k = q1 ∨ k = q2 ∨ k = q3) w).setCell ⟨q1, s, none⟩ (.inl rfl) _).setCell ⟨q2, s, none⟩ (.inr (.inl rfl)) _).setCell ⟨q3, s, none⟩ (.inr (.inr rfl)) _) (hf.set hs ha hv)
end

def R1Rel (W : World) (h : Sh) (G : Gram) (p q1 q2 q3 hi n : Nat) (i : Value) (w : World) : Prop :=
  ∃ j : Nat, 1 ≤ j ∧ j ≤ G.terms.length + 1 ∧ i = .int .i64 j ∧ RSt W h G p q1 q2 q3 hi n (tabUp j) w
def ROut (W : World) (h : Sh) (G : Gram) (p q1 q2 q3 hi n g : Nat) (m : Value) (w : World) : Prop :=
  ∃ (b : Bool) (T : Int → Ans), m = .bool b ∧ RSt W h G p q1 q2 q3 hi n T w ∧ Inv G T ∧ (b = true → leftA G 4096 T n + 1 ≤ g) ∧ (b = false → Cls G 4096 T)
def RIn (W : World) (h : Sh) (G : Gram) (p q1 q2 q3 hi n : Nat) (T0 : Int → Ans) (m i : Value) (w : World) : Prop :=
  ∃ (j : Nat) (b : Bool) (T : Int → Ans), j ≤ G.rules.length ∧ i = .int .i64 j ∧ m = .bool b ∧ RSt W h G p q1 q2 q3 hi n T w ∧ Tried G n T0 j T b

end Go.Proofs.YtoipinnfmjaaaaaDoor.Le
