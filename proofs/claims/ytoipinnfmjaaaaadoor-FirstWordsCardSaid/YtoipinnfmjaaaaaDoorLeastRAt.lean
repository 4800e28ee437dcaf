/-
  The plain answers of layer 10: their words in memory: three lists, with a cell for each symbol; less. Condition: lists are within a machine's reach.
-/
import Derived.Test.YtoipinnfmjaaaaaDoorLeastLeaves
import Derived.Test.YtoipinnfmjaaaaaDoorLeastTell
namespace Go.Proofs.YtoipinnfmjaaaaaDoor.Le
open Go.RowKit Go.Maps
open Go.Proofs.YtoipinnfmjaaaaaDoor.Gr
open Go.Proofs.YtoipinnfmjaaaaaDoor.Rw (Bk IntsV row_shape)
set_option linter.unusedVariables false

/-! ### A list of one-cell values of the call's own -/

structure Col (q n : Nat) (f : Nat → Value) (w : World) : Prop where
  at_ : ∀ s : Nat, s < n → w.cell? ⟨q, s, none⟩ = some (f s)
  free : ∀ j : Nat, w.frozen? ⟨q, j, none⟩ = false
  lt : q < w.heap.size
theorem Col.block {q n : Nat} {f : Nat → Value} {w w' : World} (h : Col q n f w) (hb : w'.heap[q]? = w.heap[q]?) (hs : w.heap.size ≤ w'.heap.size) : Col q n f w' :=
  ⟨fun s hs => (World.cell?_of_block (a := ⟨q, s, none⟩) hb).trans (h.at_ s hs), fun x => (World.frozen?_of_block (a := ⟨q, x, none⟩) hb).trans (h.free x), Nat.lt_of_lt_of_le h.lt hs⟩
theorem Col.fr {q n : Nat} {f : Nat → Value} {w w' : World} {S : Nat → Prop} (h : Col q n f w) (hF : Sep.Fr S w w') (hS : ¬ S q) : Col q n f w' := h.block (hF.block q h.lt hS) hF.size
theorem Col.went {q n : Nat} {f : Nat → Value} {w w' : World} (h : Col q n f w) (hb : Below w.heap.size w w') : Col q n f w' := h.fr (S := fun _ => False) (Sep.Fr.of_below hb) id
theorem Col.off {q n p i : Nat} {f : Nat → Value} {w : World} (h : Col q n f w) (hp : q ≠ p) (u : Value) : Col q n f (w.setCell ⟨p, i, none⟩ u) :=
  h.fr ((Sep.Fr.refl (fun k => k = p) w).setCell ⟨p, i, none⟩ rfl u) hp
theorem Col.set {q n : Nat} {f : Nat → Value} {w : World} (h : Col q n f w) {s : Nat} (hs : s < n) (v : Value) : Col q n (fun t => if t = s then v else f t) (w.setCell ⟨q, s, none⟩ v) := by
  refine ⟨fun t ht => ?_, fun x => by rw [World.frozen?_setCell]; exact h.free x, by rw [Rw.set_size]; exact h.lt⟩
  by_cases e : t = s
  · subst e
    rw [if_pos rfl]
    exact World.cell?_setCell_same _ _ _ (h.at_ t ht)
  · rw [if_neg e, World.cell?_setCell_other _ _ _ _ (fun e2 => e (congrArg Addr.off e2).symm)]
    exact h.at_ t ht
theorem Col.congr {q n : Nat} {f g : Nat → Value} {w : World} (h : Col q n f w) (e : ∀ s, s < n → f s = g s) : Col q n g w := ⟨fun s hs => by rw [← e s hs]; exact h.at_ s hs, h.free, h.lt⟩
theorem made_cell (n k : Nat) (h : k < n) (z : Value) : (madeCells #[z] n)[k]? = some z := by
  simp [madeCells, h, Nat.mod_one]
theorem col_new (n : Nat) (z : Value) (T : TypeId) (w : World) : Col w.heap.size n (fun _ => z) (w.alloc (.cells (madeCells #[z] n) T)) := by
  have B := Bk.new w (madeCells #[z] n) T _ rfl
  exact ⟨fun s hs => B.cell (made_cell n s hs z), fun j => B.free j, B.lt⟩
theorem set_comm (w : World) (p q i j : Nat) (u v : Value) (h : p ≠ q) : (w.setCell ⟨p, i, none⟩ u).setCell ⟨q, j, none⟩ v = (w.setCell ⟨q, j, none⟩ v).setCell ⟨p, i, none⟩ u := by
  unfold World.setCell
  congr 1
  refine Array.ext (by simp) fun k h1 h2 => ?_
  simp only [Array.getElem_modify]
  by_cases e1 : p = k
  · have e2 : ¬ q = k := by omega
    simp [e1, e2]
  · simp [e1]

/-! ### The words -/

/-- A word in memory, at hi or behind it. -/
def WHi (hi : Nat) (x : List Int) (v : Value) (w : World) : Prop := ∃ a c, v = .slice a x.length c ∧ Sep.Reads a (ivs x) w ∧ ∀ b o, a = some ⟨b, o, none⟩ → x ≠ [] → hi ≤ b
theorem WHi.fr {hi : Nat} {x : List Int} {v : Value} {w w' : World} {S : Nat → Prop} (h : WHi hi x v w) (hF : Sep.Fr S w w') (hS : ∀ k, S k → k < hi ∨ w.heap.size ≤ k) : WHi hi x v w' := by
  obtain ⟨a, c, rfl, hR, hq⟩ := h
  refine ⟨a, c, rfl, fun i hi => ?_, hq⟩
  obtain ⟨b, o, e, hc⟩ := hR i hi
  refine ⟨b, o, e, hF.cell hc fun hs => ?_⟩
  have hl := World.block_lt_of_cell? w ⟨b, o + i, none⟩ hc
  have hn : x ≠ [] := fun e => by subst e; simp [ivs] at hi
  have := hq b o e hn
  rcases hS _ hs with h1 | h1
  · simp at h1
    omega
  · simp at hl h1
    omega
theorem WHi.went {hi : Nat} {x : List Int} {v : Value} {w w' : World} (h : WHi hi x v w) (hb : Below w.heap.size w w') : WHi hi x v w' :=
  h.fr (S := fun _ => False) (Sep.Fr.of_below hb) fun _ k => k.elim
theorem whi_nil (hi : Nat) (w : World) : WHi hi [] (.slice none 0 0) w := ⟨none, 0, rfl, .nil _ _, fun _ _ _ h => absurd rfl h⟩

structure RAt (p q1 q2 q3 hi n : Nat) (T : Int → Ans) (f : Nat → Value) (w : World) : Prop where
  box : Bk p #[.slice (some ⟨q1, 0, none⟩) n n, .slice (some ⟨q2, 0, none⟩) n n, .slice (some ⟨q3, 0, none⟩) n n] 62 w
  c1 : Col q1 n f w
  c2 : Col q2 n (fun s => .bool (hasA (T (s : Int)))) w
  c3 : Col q3 n (fun s => .bool (farA (T (s : Int)))) w
  word : ∀ s : Nat, s < n → WHi hi (wordA (T (s : Int))) (f s) w
  hp : p < hi
  h1 : q1 < hi
  h2 : q2 < hi
  h3 : q3 < hi
  hw : hi ≤ w.heap.size
  p1 : p ≠ q1
  p2 : p ≠ q2
  p3 : p ≠ q3
  d12 : q1 ≠ q2
  d13 : q1 ≠ q3
  d23 : q2 ≠ q3
  small : n ≤ 10000
  ok : TOk n T
section
variable {p q1 q2 q3 hi n : Nat} {T : Int → Ans} {f : Nat → Value} {w w' : World}
theorem RAt.went (h : RAt p q1 q2 q3 hi n T f w) (hb : Below w.heap.size w w') : RAt p q1 q2 q3 hi n T f w' :=
  ⟨h.box.went hb, h.c1.went hb, h.c2.went hb, h.c3.went hb, fun s hs => (h.word s hs).went hb, h.hp, h.h1, h.h2, h.h3, Nat.le_trans h.hw hb.size, h.p1, h.p2, h.p3, h.d12, h.d13, h.d23, h.small, h.ok⟩
/-- A symbol's three cells are written. -/
theorem RAt.set (h : RAt p q1 q2 q3 hi n T f w) {s : Nat} (hs : s < n) {a : Ans} (ha : Bd a) {v : Value} (hv : WHi hi (wordA a) v w) :
    RAt p q1 q2 q3 hi n (setA T (s : Int) a) (fun t => if t = s then v else f t) (((w.setCell ⟨q1, s, none⟩ v).setCell ⟨q2, s, none⟩ (.bool (hasA a))).setCell ⟨q3, s, none⟩ (.bool (farA a))) := by
  have hF : Sep.Fr (fun k => k = q1 ∨ k = q2 ∨ k = q3) w (((w.setCell ⟨q1, s, none⟩ v).setCell ⟨q2, s, none⟩ (.bool (hasA a))).setCell ⟨q3, s, none⟩ (.bool (farA a))) :=
    (((Sep.Fr.refl (fun k => k = q1 ∨ k = q2 ∨ k = q3) w).setCell ⟨q1, s, none⟩ (.inl rfl) _).setCell ⟨q2, s, none⟩ (.inr (.inl rfl)) _).setCell ⟨q3, s, none⟩ (.inr (.inr rfl)) _
  have k1 := h.h1
  have k2 := h.h2
  have k3 := h.h3
  have hS : ∀ k, (k = q1 ∨ k = q2 ∨ k = q3) → k < hi ∨ w.heap.size ≤ k := fun k hk => .inl (by omega)
  have cg : ∀ (g : Ans → Bool) (t : Nat), (if t = s then Value.bool (g a) else .bool (g (T (t : Int)))) = .bool (g (setA T (s : Int) a (t : Int))) := fun g t => by
    by_cases e : t = s
    · subst e
      rw [if_pos rfl, setA_hit]
    · rw [if_neg e, setA_miss _ _ (by omega)]
  refine ⟨h.box.fr hF (by have := h.p1; have := h.p2; have := h.p3; omega), ((h.c1.set hs v).off h.d12 _).off h.d13 _, (((h.c2.off (Ne.symm h.d12) _).set hs _).off h.d23 _).congr fun t _ => cg hasA t, (((h.c3.off (Ne.symm h.d13) _).off (Ne.symm h.d23) _).set hs _).congr fun t _ => cg farA t,
    fun t ht => ?_, h.hp, k1, k2, k3, by rw [Rw.set_size, Rw.set_size, Rw.set_size]; exact h.hw, h.p1, h.p2, h.p3, h.d12, h.d13, h.d23, h.small, h.ok.set (by omega) (by omega) ha⟩
  by_cases e : t = s
  · subst e
    rw [if_pos rfl, setA_hit]
    exact hv.fr hF hS
  · rw [if_neg e, setA_miss _ _ (by omega)]
    exact (h.word t ht).fr hF hS
end

/-- What a pointer to the plain answers' words tells. -/
def RVAt (nl : Bool) (v : Value) (T : Int → Ans) (w : World) : Prop :=
  (nl = true ∧ v = .pointer none ∧ T = fun _ => .none) ∨ (nl = false ∧ ∃ p q1 q2 q3 hi n f, v = .pointer (some ⟨p, 0, none⟩) ∧ RAt p q1 q2 q3 hi n T f w)
theorem RVAt.went {nl : Bool} {v : Value} {T : Int → Ans} {w w' : World} (h : RVAt nl v T w) (hb : Below w.heap.size w w') : RVAt nl v T w' := by
  rcases h with ⟨h1, h2, h3⟩ | ⟨h1, p, q1, q2, q3, hi, n, f, h2, h3⟩
  · exact .inl ⟨h1, h2, h3⟩
  · exact .inr ⟨h1, p, q1, q2, q3, hi, n, f, h2, h3.went hb⟩

/-! ### less -/

theorem two_cells {p1 p2 : Addr} {v1 v2 : Value} {w : World} (h1 : w.cell? p1 = some v1) (h2 : w.cell? p2 = some v2) : ∀ w', Below w.heap.size w w' → w'.cell? p1 = some v1 ∧ w'.cell? p2 = some v2 :=
  fun w' hb => ⟨cell_later hb h1, cell_later hb h2⟩

set_option maxHeartbeats 4000000 in
theorem rless_any (X Y : List Int) (a b : Option Addr) (c d : Nat) (w : World) (hX : Sep.Reads a (ivs X) w) (hY : Sep.Reads b (ivs Y) w) (hm : X.length ≤ 100000) (hm2 : Y.length ≤ 100000) :
    Calls Tryd.prog 61 #[.slice a X.length c, .slice b Y.length d] w (Is (.bool (lessB X Y)) w) := by
  by_cases hl : X.length = Y.length
  · have HX := Lib.hid (fun w1 (bb : Below w.heap.size w w1) => Sep.Reads.below hX bb (Nat.le_refl _))
    have HY := Lib.hid (fun w1 (bb : Below w.heap.size w w1) => Sep.Reads.below hY bb (Nat.le_refl _))
    have HL := Lib.hid hl
    have E := Lib.hid (show lessB X Y = lexB X Y from if_pos hl)
    rw [E.out, ← hl]
    clear hX hY hl E hm2
    go_enter Tryd.func61, Tryd.ntmps61
    go_wp2
    go_loopw [5] (fun i wr => ∃ k : Nat, k ≤ X.length ∧ i = .int .i64 k ∧ SameTo X Y k ∧ Below w.heap.size w wr) (fun i _ => X.length - (intOf i).toNat)
    case atStart => exact ⟨0, Nat.zero_le _, rfl, same_zero _ _, .refl _ _⟩
    case round =>
      obtain ⟨k, hk, rfl, hS, hB⟩ := hrel
      have S := Lib.hid hS
      have B := Lib.hid hB
      clear hS hB
      by_cases hlt : k < X.length
      · have hlt2 : k < Y.length := by rw [← HL.out]; exact hlt
        obtain ⟨b1, o1, e1, hc1⟩ := int_at (HX.out _ B.out) hlt
        obtain ⟨b2, o2, e2, hc2⟩ := int_at (HY.out _ B.out) hlt2
        have NS := Lib.hid (fun he => same_step S.out hlt hlt2 he)
        have NE := Lib.hid (fun he => lex_at S.out hlt hlt2 he)
        generalize X[k] = x at *
        generalize Y[k] = y at *
        subst e1 e2
        have i0 : (0 : Int) ≤ (k : Int) := by omega
        have i1 : (k : Int) < (X.length : Int) := by omega
        by_cases hxy : x = y
        · have S2 := Lib.hid (NS.out hxy)
          have hb : (x != y) = false := by simpa using hxy
          clear hxy NS NE hlt2
          go_wp2
          go_quiet (fail)
          go_wp2
          go_roundw
          case rel => exact ⟨k + 1, by omega, by go_num, S2.out, Gr.step B.out (drawnN _ _)⟩
          case measure => simp [intOf]; omega
        · have E := Lib.hid (NE.out hxy)
          have hb : (x != y) = true := by simpa using hxy
          clear hxy NS NE hlt2
          go_wp2
          go_quiet (fail)
          go_wp2
          go_quiet (fail)
          go_wp2
          go_ret
          exact ⟨bool_of E.out, Gr.step B.out (Gr.step (drawnN _ _) (drawnN _ _))⟩
      · have E := Lib.hid (show lexB X Y = false from by rw [same_end S.out hlt HL.out]; exact lex_self Y)
        go_wp2
        go_ret
        exact ⟨bool_of E.out, B.out⟩
  · have E := Lib.hid (show lessB X Y = decide (X.length < Y.length) from if_neg hl)
    have hb : ((X.length : Int) != (Y.length : Int)) = true := by simp; omega
    clear hX hY hl
    generalize lessB X Y = ans at *
    generalize X.length = n at *
    generalize Y.length = m at *
    go_enter Tryd.func61, Tryd.ntmps61
    go_wp2
    go_ret
    exact ⟨bool_of E.out, .refl _ _⟩

end Go.Proofs.YtoipinnfmjaaaaaDoor.Le
