/-
  The plain answers of layer 11: the struct as it is made, and the first entries of its rows. No function of the program in it.
-/
import Derived.Test.YtoipinnfmjaaaaaGreatDoorFirstRBehind
namespace Go.Proofs.YtoipinnfmjaaaaaGreatDoor.Fr
open Go.RowKit Go.Maps
open Go.Proofs.YtoipinnfmjaaaaaGreatDoor.Gr
open Go.Proofs.YtoipinnfmjaaaaaGreatDoor.Fi
open Go.Proofs.YtoipinnfmjaaaaaGreatDoor.Bt (Keeps)
open Go.Proofs.YtoipinnfmjaaaaaGreatDoor.Rw (Bk row_shape)
set_option linter.unusedVariables false

/-- New rows in a range of blocks. -/
structure RR (l u m n q c : Nat) (ds : Nat → Nat) (w : World) : Prop where
  rows : Rows l m n ds (.slice (some ⟨q, 0, none⟩) n c) w
  up : ∀ i, i < n → ds i < u
  ql : l ≤ q
  qu : q < u
theorem RR.went {l u m n q c : Nat} {ds : Nat → Nat} {w w' : World} (h : RR l u m n q c ds w) (hb : Below w.heap.size w w') : RR l u m n q c ds w' := ⟨h.rows.went hb, h.up, h.ql, h.qu⟩
theorem rows_of (n m : Nat) (w : World) (hn : n ≤ 4000) (h0 : 0 < n) (hm : m ≤ 4000) :
    Calls Tryz.prog 25 #[.int .i64 (n : Int), .int .i64 (m : Int)] w (fun e w' => ∃ q c ds, e = .returned (.slice (some ⟨q, 0, none⟩) n c) ∧ RR w.heap.size w'.heap.size m n q c ds w' ∧ Below w.heap.size w w') := by
  refine (rows_any n m w hn hm).mono ?_
  rintro e w' ⟨v, ds, rfl, hR, hb⟩
  rcases hR.row.2 with ⟨_, h2⟩ | ⟨g, cap, cur, h1, _⟩
  · omega
  · subst h1
    have hlt := hR.row.lt g rfl
    exact ⟨g, cap, ds, rfl, ⟨hR, fun i hi => (hR.each i hi).lt, hlt.1, hlt.2⟩, hb⟩
theorem RR.cell {l u m n q c : Nat} {ds : Nat → Nat} {w : World} (h : RR l u m n q c ds w) {s : Nat} (hs : s < n) : w.cell? ⟨q, s, none⟩ = some (.slice (some ⟨ds s, 0, none⟩) m m) := by
  have := h.rows.row.cells (g := q) rfl s (rowV m ds s) (by simp [hs])
  rwa [WideShapes.add_plain, Nat.zero_add] at this

/-- Behind the box of the grammar. -/
structure OSt (W : World) (h : Sh) (G : Gram) (D : Ix → Nat) (p q1 q2 k1 k2 : Nat) (C : Int → Bool) (F B : Int → Int → Bool) (w : World) : Prop where
  x : Bx W h G w
  s : RAt D p q1 q2 k1 k2 (top G + 1) h G (tv C F B no0) w
  lo : ∀ k, Jn (top G + 1) k → W.heap.size < D k
theorem OSt.went {W : World} {h : Sh} {G : Gram} {D : Ix → Nat} {p q1 q2 k1 k2 : Nat} {C : Int → Bool} {F B : Int → Int → Bool} {w w' : World} (o : OSt W h G D p q1 q2 k1 k2 C F B w) (hb : Below w.heap.size w w') : OSt W h G D p q1 q2 k1 k2 C F B w' := ⟨o.x.went hb, o.s.went hb, o.lo⟩
theorem OSt.fr {W : World} {h : Sh} {G : Gram} {D : Ix → Nat} {p q1 q2 k1 k2 : Nat} {C C' : Int → Bool} {F B F' B' : Int → Int → Bool} {w w' : World} (o : OSt W h G D p q1 q2 k1 k2 C F B w) (hF : Sep.Fr (Ds (Jn (top G + 1)) D) w w') (hs : RAt D p q1 q2 k1 k2 (top G + 1) h G (tv C' F' B' no0) w') : OSt W h G D p q1 q2 k1 k2 C' F' B' w' :=
  ⟨bx_fr o.x hF (fun b ⟨k, hk, e⟩ => e ▸ o.lo k hk), hs, o.lo⟩
abbrev nof : Int → Int → Bool := fun _ _ => false
def OMid (W : World) (h : Sh) (G : Gram) (s : Value) (w : World) : Prop := ∃ D p q1 q2 k1 k2, s = .pointer (some ⟨p, 0, none⟩) ∧ OSt W h G D p q1 q2 k1 k2 tabC0 nof nof w

theorem omid_of {W : World} {h : Sh} {G : Gram} {dc q1 c1 q2 c2 l1 u1 l2 u2 : Nat} {ds1 ds2 : Nat → Nat} {w : World} (hc : BRow dc (top G + 1) no0 w) (A : RR l1 u1 (G.terms.length + 1) (top G + 1) q1 c1 ds1 w) (B : RR l2 u2 (G.terms.length + 1) (top G + 1) q2 c2 ds2 w) (hX : Bx W h G w)
    (h1 : W.heap.size < l1) (h2 : W.heap.size < l2) (h3 : W.heap.size < dc) (d1 : u1 ≤ l2 ∨ u2 ≤ l1) (d2 : dc < l1 ∨ u1 ≤ dc) (d3 : dc < l2 ∨ u2 ≤ dc) (hn : top G ≤ 240) (N : Nat) (hN : N = top G + 1) (q : Nat) (hq : q = w.heap.size) :
    OMid W h G (.pointer (some ⟨q, 0, none⟩)) (w.alloc (.cells #[.slice h.a1 G.terms.length h.c1, .slice h.a2 G.nons.length h.c2, .slice h.a3 G.rules.length h.c3, .int .i64 G.start, .slice (some ⟨dc, 0, none⟩) N N, .slice (some ⟨q1, 0, none⟩) N c1, .slice (some ⟨q2, 0, none⟩) N c2] 49)) := by
  subst hN
  subst hq
  have bx := boxed w (.cells #[.slice h.a1 G.terms.length h.c1, .slice h.a2 G.nons.length h.c2, .slice h.a3 G.rules.length h.c3, .int .i64 G.start, .slice (some ⟨dc, 0, none⟩) (top G + 1) (top G + 1), .slice (some ⟨q1, 0, none⟩) (top G + 1) c1, .slice (some ⟨q2, 0, none⟩) (top G + 1) c2] 49)
  have A' := A.went bx
  have B' := B.went bx
  have hc' := hc.went bx
  have e : top G = G.terms.length + G.nons.length := rfl
  have a1 := A.up
  have a2 := A.rows.lo
  have b1 := B.up
  have b2 := B.rows.lo
  have qa := A.ql
  have qb := A.qu
  have qc := B.ql
  have qd := B.qu
  have cl := hc.lt
  have dl1 : ∀ i, i < top G + 1 → ds1 i < w.heap.size := fun i hi => (A.rows.each i hi).lt
  have dl2 : ∀ i, i < top G + 1 → ds2 i < w.heap.size := fun i hi => (B.rows.each i hi).lt
  have ql1 : q1 < w.heap.size := World.block_lt_of_cell? w ⟨q1, 0, none⟩ (A.cell (s := 0) (by omega))
  have ql2 : q2 < w.heap.size := World.block_lt_of_cell? w ⟨q2, 0, none⟩ (B.cell (s := 0) (by omega))
  have o1 : ∀ i, i < top G + 1 → ds1 i ≠ q1 := fun i hi e2 => A.rows.off i hi (by rw [e2]; rfl)
  have o2 : ∀ i, i < top G + 1 → ds2 i ≠ q2 := fun i hi e2 => B.rows.off i hi (by rw [e2]; rfl)
  refine ⟨fun k => match k with | .e => dc | .f s => ds1 s | .g s => ds2 s | .o => 0, w.heap.size, q1, q2, c1, c2, rfl, hX.went bx, ⟨Bk.new w _ _ _ rfl, fun s hs => A'.cell hs, fun s hs => B'.cell hs, ⟨?_, ?_⟩, ?_, by omega, by omega⟩, ?_⟩
  · rintro (_ | s | s | _) hk
    · exact hc'
    · exact A'.rows.each s hk
    · exact B'.rows.each s hk
    · exact hk.elim
  · rintro (_ | s | s | _) (_ | s' | s' | _) hj hk he
    · rfl
    · have h1 := a1 s' hk
      have h2 := a2 s' hk
      have he : dc = ds1 s' := he
      omega
    · have h1 := b1 s' hk
      have h2 := b2 s' hk
      have he : dc = ds2 s' := he
      omega
    · exact hk.elim
    · have h1 := a1 s hj
      have h2 := a2 s hj
      have he : ds1 s = dc := he
      omega
    · rw [A.rows.inj s s' hj hk he]
    · have h1 := a1 s hj
      have h2 := a2 s hj
      have h3 := b1 s' hk
      have h4 := b2 s' hk
      have he : ds1 s = ds2 s' := he
      omega
    · exact hk.elim
    · have h1 := b1 s hj
      have h2 := b2 s hj
      have he : ds2 s = dc := he
      omega
    · have h1 := b1 s hj
      have h2 := b2 s hj
      have h3 := a1 s' hk
      have h4 := a2 s' hk
      have he : ds2 s = ds1 s' := he
      omega
    · rw [B.rows.inj s s' hj hk he]
    · exact hk.elim
    · exact hj.elim
    · exact hj.elim
    · exact hj.elim
    · exact hj.elim
  · rintro (_ | s | s | _) hk
    · show dc ≠ w.heap.size ∧ dc ≠ q1 ∧ dc ≠ q2
      omega
    · have h1 := a1 s hk
      have h2 := a2 s hk
      have h3 := dl1 s hk
      have h4 := o1 s hk
      show ds1 s ≠ w.heap.size ∧ ds1 s ≠ q1 ∧ ds1 s ≠ q2
      omega
    · have h1 := b1 s hk
      have h2 := b2 s hk
      have h3 := dl2 s hk
      have h4 := o2 s hk
      show ds2 s ≠ w.heap.size ∧ ds2 s ≠ q1 ∧ ds2 s ≠ q2
      omega
    · exact hk.elim
  · rintro (_ | s | s | _) hk
    · exact h3
    · exact Nat.lt_of_lt_of_le h1 (a2 s hk)
    · exact Nat.lt_of_lt_of_le h2 (b2 s hk)
    · exact hk.elim

/-! ### Stores -/

theorem BRow.setv {d m : Nat} {P : Nat → Bool} {w : World} (h : BRow d m P w) {s : Nat} (hs : s < m) (v : Bool) : BRow d m (fun t => if t = s then v else P t) (w.setCell ⟨d, s, none⟩ (.bool v)) := by
  refine ⟨fun t ht => ?_, fun j => ?_, by rw [Rw.set_size]; exact h.lt⟩
  · by_cases e : t = s
    · subst e
      rw [World.cell?_setCell_same _ _ _ (h.at_ t ht), if_pos rfl]
    · rw [World.cell?_setCell_other _ _ _ _ (by intro e2; exact e (congrArg Addr.off e2).symm), h.at_ t ht, if_neg e]
  · rw [World.frozen?_setCell]
    exact h.free j
theorem RAt.setv {D : Ix → Nat} {p q1 q2 k1 k2 n : Nat} {h : Sh} {G : Gram} {V : Ix → Nat → Bool} {w : World} (l : RAt D p q1 q2 k1 k2 n h G V w) {k : Ix} (hk : Jn n k) {s : Nat} (hs : s < rm G.terms.length n k) (v : Bool) :
    RAt D p q1 q2 k1 k2 n h G (upd V k (fun t => if t = s then v else V k t)) (w.setCell ⟨D k, s, none⟩ (.bool v)) ∧ Sep.Fr (Ds (Jn n) D) w (w.setCell ⟨D k, s, none⟩ (.bool v)) :=
  ⟨l.wrote hk ((l.fam.at_ k hk).setv hs v) ((Keeps.refl _ _).setCell s (.bool v)), fr_keeps hk ((Keeps.refl _ _).setCell s (.bool v))⟩
def tabFk (k : Nat) : Int → Int → Bool := fun x t => decide (x = t ∧ 0 ≤ x ∧ x < (k : Int))
theorem tabFk_zero : tabFk 0 = nof := by
  funext x t
  unfold tabFk
  rw [decide_eq_false_iff_not]
  omega
theorem tabFk_end (G : Gram) : tabFk (G.terms.length + 1) = tabF0 G := by
  funext x t
  unfold tabFk tabF0
  rw [decide_eq_decide]
  omega
theorem tabFk_step (k : Nat) (C : Int → Bool) (B : Int → Int → Bool) : upd (tv C (tabFk k) B no0) (.f k) (fun t => if t = k then true else tv C (tabFk k) B no0 (.f k) t) = tv C (tabFk (k + 1)) B no0 := by
  refine tv_f ?_ fun x hx => ?_
  · funext i
    show (if i = k then true else decide ((k : Int) = (i : Int) ∧ 0 ≤ (k : Int) ∧ (k : Int) < (k : Int))) = decide ((k : Int) = (i : Int) ∧ 0 ≤ (k : Int) ∧ (k : Int) < ((k + 1 : Nat) : Int))
    by_cases e : i = k
    · rw [if_pos e]
      symm
      rw [decide_eq_true_iff]
      omega
    · rw [if_neg e, decide_eq_decide]
      omega
  · funext t
    unfold tabFk
    rw [decide_eq_decide]
    omega
theorem can_set {C : Int → Bool} {F B : Int → Int → Bool} {s : Nat} {R : List Int} : upd (tv C F B no0) .e (fun t => if t = s then (C (s : Int) || allC C R) else tv C F B no0 .e t) = tv (addC C ((s : Int), R)) F B no0 := by
  refine tv_e ?_
  funext i
  show (if i = s then (C (s : Int) || allC C R) else C (i : Int)) = (C (i : Int) || (decide ((i : Int) = (s : Int)) && allC C R))
  by_cases e : i = s
  · subst e
    rw [if_pos rfl, decide_eq_true rfl, Bool.true_and]
  · rw [if_neg e, decide_eq_false (by omega), Bool.false_and, Bool.or_false]
theorem fol_set {G : Gram} {C : Int → Bool} {F : Int → Int → Bool} {s : Nat} (h : G.start = (s : Int)) : upd (tv C F nof no0) (.g s) (fun t => if t = 0 then true else tv C F nof no0 (.g s) t) = tv C F (tabB0 G) no0 := by
  refine tv_g ?_ fun x hx => ?_
  · funext i
    show (if i = 0 then true else false) = decide ((s : Int) = G.start ∧ (i : Int) = 0)
    by_cases e : i = 0
    · rw [if_pos e]
      symm
      rw [decide_eq_true_iff]
      omega
    · rw [if_neg e]
      symm
      rw [decide_eq_false_iff_not]
      omega
  · funext i
    show decide (x = G.start ∧ i = 0) = false
    rw [decide_eq_false_iff_not]
    omega

end Go.Proofs.YtoipinnfmjaaaaaGreatDoor.Fr
