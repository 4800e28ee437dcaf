/-
  The plain answers of layer 11: rows of yes and no: put, list, rows. Condition: the rows are within a machine's reach.
-/
import Derived.Test.YtoipinnfmjaaaaaGreatDoorFirstTabs
import Derived.Test.YtoipinnfmjaaaaaGreatDoorRowKit
import Derived.Test.YtoipinnfmjaaaaaGreatDoorMCheck
import Derived.Test.YtoipinnfmjaaaaaGreatDoorMBits
import Derived.Deep.LoopGhost
namespace Go.Proofs.YtoipinnfmjaaaaaGreatDoor.Fr
open Go.RowKit Go.Maps
open Go.Proofs.YtoipinnfmjaaaaaGreatDoor.Gr
open Go.Proofs.YtoipinnfmjaaaaaGreatDoor.Fi (rw' Rng lst lst_hit lst_miss lst_zero lst_len mem_lst)
open Go.Proofs.YtoipinnfmjaaaaaGreatDoor.Bt (Keeps)
open Go.Proofs.YtoipinnfmjaaaaaGreatDoor.Rw (row_shape)
set_option linter.unusedVariables false

/-- A row of yes and no, in a block of its own. -/
structure BRow (d m : Nat) (P : Nat → Bool) (w : World) : Prop where
  at_ : ∀ s : Nat, s < m → w.cell? ⟨d, s, none⟩ = some (.bool (P s))
  free : ∀ j : Nat, w.frozen? ⟨d, j, none⟩ = false
  lt : d < w.heap.size
theorem BRow.block {d m : Nat} {P : Nat → Bool} {w w' : World} (h : BRow d m P w) (hb : w'.heap[d]? = w.heap[d]?) (hs : w.heap.size ≤ w'.heap.size) : BRow d m P w' :=
  ⟨fun s hs => (World.cell?_of_block (a := ⟨d, s, none⟩) hb).trans (h.at_ s hs), fun x => (World.frozen?_of_block (a := ⟨d, x, none⟩) hb).trans (h.free x), Nat.lt_of_lt_of_le h.lt hs⟩
theorem BRow.went {d m : Nat} {P : Nat → Bool} {w w' : World} (h : BRow d m P w) (hb : Below w.heap.size w w') : BRow d m P w' := h.block (hb.block d h.lt) hb.size
theorem BRow.keeps {d m k : Nat} {P : Nat → Bool} {w w' : World} (h : BRow d m P w) (hk : Keeps k w w') (hd : d ≠ k) : BRow d m P w' := h.block (hk.block d h.lt hd) hk.size
theorem BRow.congr {d m : Nat} {P Q : Nat → Bool} {w : World} (h : BRow d m P w) (e : ∀ s, s < m → P s = Q s) : BRow d m Q w := ⟨fun s hs => by rw [← e s hs]; exact h.at_ s hs, h.free, h.lt⟩
theorem BRow.set {d m : Nat} {P : Nat → Bool} {w : World} (h : BRow d m P w) {s : Nat} (hs : s < m) : BRow d m (fun t => P t || decide (t = s)) (w.setCell ⟨d, s, none⟩ (.bool true)) := by
  refine ⟨fun t ht => ?_, fun j => ?_, by rw [Rw.set_size]; exact h.lt⟩
  · by_cases e : t = s
    · subst e
      rw [World.cell?_setCell_same _ _ _ (h.at_ t ht)]
      simp
    · rw [World.cell?_setCell_other _ _ _ _ (by intro e2; exact e (congrArg Addr.off e2).symm), h.at_ t ht]
      simp [e]
  · rw [World.frozen?_setCell]
    exact h.free j
theorem info_bool : (Tryz.prog.info? 4).map (fun i => (i.zero, i.size, i.bytes)) = some (some (.bool false), 1, 1) := by kernel_rfl
theorem make_bools (n : Nat) (hn : n ≤ 10000) (w : World) :
    (Instr.makeSlice 45 (.int .i64 (n : Int)) (.int .i64 (n : Int))).run Tryz.prog w = .ok (.slice (some ⟨w.heap.size, 0, none⟩) n n) (w.alloc (.cells (madeCells #[.bool false] n) 4)) :=
  run_make_row' 45 4 (.bool false) 1 Tryz.underlying45 info_bool rfl .i64 .i64 n (by omega) (by omega) w
theorem brow_new (n : Nat) (w : World) : BRow w.heap.size n (fun _ => false) (w.alloc (.cells (madeCells #[.bool false] n) 4)) := by
  have B := Rw.Bk.new w (madeCells #[.bool false] n) 4 _ rfl
  exact ⟨fun s hs => B.cell (Bt.made_cell n s hs _), fun j => B.free j, B.lt⟩

/-! ### put -/

def upK (P Q : Nat → Bool) (k : Nat) : Nat → Bool := fun i => P i || (decide (i < k) && Q i)
theorem upK_zero (P Q : Nat → Bool) : upK P Q 0 = P := by funext i; simp [upK]
theorem upK_end {P Q : Nat → Bool} {m : Nat} (hQ : ∀ i, Q i = true → i < m) : upK P Q m = fun i => P i || Q i := by
  funext i
  unfold upK
  cases e : Q i with
  | false => simp
  | true => simp [hQ i e]
theorem upK_same {P Q : Nat → Bool} {k : Nat} (h : Q k = true → P k = true) : upK P Q (k + 1) = upK P Q k := by
  funext i
  unfold upK
  by_cases e : i = k
  · subst e
    cases hq : Q i with
    | false => simp
    | true => simp [h hq]
  · have : decide (i < k + 1) = decide (i < k) := by rw [decide_eq_decide]; omega
    rw [this]
theorem upK_hit {P Q : Nat → Bool} {k : Nat} (h : Q k = true) : (fun t => upK P Q k t || decide (t = k)) = upK P Q (k + 1) := by
  funext i
  unfold upK
  by_cases e : i = k
  · subst e
    simp [h]
  · have : decide (i < k + 1) = decide (i < k) := by rw [decide_eq_decide]; omega
    rw [this]
    simp [e]
theorem upK_at (P Q : Nat → Bool) (k : Nat) : upK P Q k k = P k := by simp [upK]
def Gk (P Q : Nat → Bool) (k : Nat) (b : Bool) : Prop := b = true ↔ ∃ i, i < k ∧ Q i = true ∧ P i = false
theorem gk_zero (P Q : Nat → Bool) : Gk P Q 0 false := by
  unfold Gk
  constructor
  · intro h; cases h
  · rintro ⟨i, h, _⟩; omega
theorem gk_same {P Q : Nat → Bool} {k : Nat} {b : Bool} (h : Gk P Q k b) (hk : Q k = true → P k = true) : Gk P Q (k + 1) b := by
  unfold Gk at h ⊢
  rw [h]
  constructor
  · rintro ⟨i, h1, h2⟩; exact ⟨i, by omega, h2⟩
  · rintro ⟨i, h1, h2, h3⟩
    by_cases e : i = k
    · subst e
      rw [hk h2] at h3
      cases h3
    · exact ⟨i, by omega, h2, h3⟩
theorem gk_hit {P Q : Nat → Bool} {k : Nat} (h1 : Q k = true) (h2 : P k = false) : Gk P Q (k + 1) true := ⟨fun _ => ⟨k, by omega, h1, h2⟩, fun _ => rfl⟩

/-- The row has been written, and nothing else. -/
def PutEnd (d m : Nat) (P Q : Nat → Bool) (w : World) (e : Ending) (w' : World) : Prop :=
  ∃ b, e = .returned (.bool b) ∧ (b = true ↔ ∃ i, Q i = true ∧ P i = false) ∧ BRow d m (fun i => P i || Q i) w' ∧ Keeps d w w'
def PuRel (d e m : Nat) (P Q : Nat → Bool) (W : World) (v i : Value) (w : World) : Prop :=
  ∃ (k : Nat) (b : Bool), k ≤ m ∧ i = .int .i64 k ∧ v = .bool b ∧ Gk P Q k b ∧ BRow d m (upK P Q k) w ∧ BRow e m Q w ∧ Keeps d W w

set_option maxRecDepth 100000 in
set_option maxHeartbeats 4000000 in
theorem put_other (d e m c1 c2 : Nat) (P Q : Nat → Bool) (w : World) (hd : BRow d m P w) (he : BRow e m Q w) (hne : d ≠ e) (hQ : ∀ i, Q i = true → i < m) (hm : m ≤ 10000) :
    Calls Tryz.prog 27 #[.slice (some ⟨d, 0, none⟩) m c1, .slice (some ⟨e, 0, none⟩) m c2] w (PutEnd d m P Q w) := by
  have D0 := Lib.hid (show BRow d m (upK P Q 0) w by rw [upK_zero]; exact hd)
  have E0 := Lib.hid he
  have QE := Lib.hid (upK_end (P := P) hQ)
  have HQ := Lib.hid hQ
  clear hd he hQ
  go_enter Tryz.func27, Tryz.ntmps27
  go_wp2
  go_loopw [5, 6] (fun v i wr => PuRel d e m P Q w v i wr) (fun _ i _ => m - (intOf i).toNat)
  case atStart => exact ⟨0, false, Nat.zero_le _, rfl, rfl, gk_zero _ _, D0.out, E0.out, .refl _ _⟩
  case round =>
    clear D0 E0
    obtain ⟨k, b, hk, rfl, rfl, hg, hD, hE, hK⟩ := hrel
    have GG := Lib.hid hg
    have D1 := Lib.hid hD
    have E1 := Lib.hid hE
    have K1 := Lib.hid hK
    clear hg hD hE hK
    by_cases hlt : k < m
    · have z1 := D1.out.at_ k hlt
      rw [upK_at] at z1
      have z2 := E1.out.at_ k hlt
      have zf := D1.out.free k
      cases hq : Q k with
      | false =>
        have G2 := Lib.hid (gk_same GG.out (fun h => by rw [hq] at h; cases h))
        have D2 := Lib.hid (show BRow d m (upK P Q (k + 1)) wr by rw [upK_same (fun h => by rw [hq] at h; cases h)]; exact D1.out)
        rw [hq] at z2
        clear hq
        go_wp2
        go_roundw
        case rel => exact ⟨k + 1, b, by omega, by go_num, rfl, G2.out, D2.out, E1.out, K1.out⟩
        case measure => simp [intOf]; omega
      | true =>
        cases hp : P k with
        | true =>
          have G2 := Lib.hid (gk_same GG.out (fun _ => hp))
          have D2 := Lib.hid (show BRow d m (upK P Q (k + 1)) wr by rw [upK_same (fun _ => hp)]; exact D1.out)
          rw [hq] at z2
          rw [hp] at z1
          clear hq hp
          go_wp2
          go_roundw
          case rel => exact ⟨k + 1, b, by omega, by go_num, rfl, G2.out, D2.out, E1.out, K1.out⟩
          case measure => simp [intOf]; omega
        | false =>
          have G2 := Lib.hid (gk_hit hq hp)
          have D2 := Lib.hid (show BRow d m (upK P Q (k + 1)) (wr.setCell ⟨d, k, none⟩ (.bool true)) by rw [← upK_hit hq]; exact D1.out.set hlt)
          have K2 := Lib.hid ((Keeps.refl d wr).setCell k (.bool true))
          have E2 := Lib.hid (E1.out.keeps K2.out (fun h => hne h.symm))
          rw [hq] at z2
          rw [hp] at z1
          clear hq hp
          go_wp2
          go_roundw
          case rel => exact ⟨k + 1, true, by omega, by go_num, rfl, G2.out, D2.out, E2.out, K1.out.trans K2.out⟩
          case measure => simp [intOf]; omega
    · have hE : k = m := by omega
      subst hE
      have D2 := Lib.hid (show BRow d k (fun i => P i || Q i) wr by rw [← QE.out]; exact D1.out)
      have G2 := Lib.hid (show b = true ↔ ∃ i, Q i = true ∧ P i = false from by
        have := GG.out
        unfold Gk at this
        rw [this]
        exact ⟨fun ⟨i, _, h⟩ => ⟨i, h⟩, fun ⟨i, h⟩ => ⟨i, HQ.out i h.1, h⟩⟩)
      go_wp2
      go_ret
      exact ⟨b, rfl, G2.out, D2.out, K1.out⟩

set_option maxRecDepth 100000 in
set_option maxHeartbeats 4000000 in
theorem put_self (d m c1 c2 : Nat) (P : Nat → Bool) (w : World) (hd : BRow d m P w) (hm : m ≤ 10000) :
    Calls Tryz.prog 27 #[.slice (some ⟨d, 0, none⟩) m c1, .slice (some ⟨d, 0, none⟩) m c2] w (fun e w' => e = .returned (.bool false) ∧ w = w') := by
  have D0 := Lib.hid hd
  clear hd
  go_enter Tryz.func27, Tryz.ntmps27
  go_wp2
  go_loopw [5, 6] (fun v i wr => ∃ k : Nat, k ≤ m ∧ i = .int .i64 k ∧ v = .bool false ∧ w = wr) (fun _ i _ => m - (intOf i).toNat)
  case atStart => exact ⟨0, Nat.zero_le _, rfl, rfl, rfl⟩
  case round =>
    obtain ⟨k, hk, rfl, rfl, eqs⟩ := hrel
    subst eqs
    by_cases hlt : k < m
    · have z1 := D0.out.at_ k hlt
      cases hq : P k with
      | false =>
        rw [hq] at z1
        clear hq
        go_wp2
        go_roundw
        case rel => exact ⟨k + 1, by omega, by go_num, rfl, by first | rfl | trivial⟩
        case measure => simp [intOf]; omega
      | true =>
        rw [hq] at z1
        clear hq
        go_wp2
        go_roundw
        case rel => exact ⟨k + 1, by omega, by go_num, rfl, by first | rfl | trivial⟩
        case measure => simp [intOf]; omega
    · go_wp2
      go_ret
      exact ⟨rfl, rfl⟩

/-! ### list -/

theorem info_int : (Tryz.prog.info? 3).map (fun i => (i.zero, i.size, i.bytes)) = some (some (.int .i64 0), 1, 8) := by kernel_rfl
def LiRel (Q : Int → Bool) (d m : Nat) (W : World) (v i : Value) (w : World) : Prop :=
  ∃ k : Nat, k ≤ m ∧ i = .int .i64 k ∧ W.heap.size ≤ w.heap.size ∧ w.ownsRow W.heap.size 3 1 v (lst Q k).length (ivs (lst Q k)) ∧ Below W.heap.size W w

set_option maxRecDepth 100000 in
set_option maxHeartbeats 4000000 in
theorem list_any (Q : Int → Bool) (d m c : Nat) (w : World) (hd : BRow d m (rw' Q) w) (hm : m ≤ 10000) :
    Calls Tryz.prog 33 #[.slice (some ⟨d, 0, none⟩) m c] w (Listed (lst Q m) w) := by
  obtain ⟨i0, hi, hz0, hz1, hz2⟩ := info_parts info_int
  have D0 := Lib.hid (fun w' (b : Below w.heap.size w w') => hd.went b)
  clear hd
  go_enter Tryz.func33, Tryz.ntmps33
  go_wp2
  go_loopw [3, 4] (fun v i wr => LiRel Q d m w v i wr) (fun _ i _ => m - (intOf i).toNat)
  case atStart => exact ⟨0, Nat.zero_le _, rfl, Nat.le_refl _, World.ownsRow_nil _ _ _ _, .refl _ _⟩
  case round =>
    obtain ⟨k, hk, rfl, hsz, hO, hb⟩ := hrel
    have O := Lib.hid hO
    have B := Lib.hid hb
    obtain ⟨va, vc, rfl⟩ := row_shape hO
    have hl := lst_len Q k
    clear hO hb
    by_cases hlt : k < m
    · have z := (D0.out _ B.out).at_ k hlt
      cases hq : rw' Q k with
      | false =>
        have E := Lib.hid (lst_miss (P := Q) (n := k) hq)
        rw [hq] at z
        clear hq
        go_wp2
        go_roundw
        case rel => exact ⟨k + 1, by omega, by go_num, hsz, by rw [E.out]; exact O.out, B.out⟩
        case measure => simp [intOf]; omega
      | true =>
        have E := Lib.hid (lst_hit (P := Q) (n := k) hq)
        rw [hq] at z
        clear hq
        go_wp2_with (at_builtin; refine wpList_append_own _ rfl _ _ 26 rfl w.heap.size 3 i0 (.int .i64 0) 1 8 Tryz.underlying26 hi hz0 hz1 hz2 rfl (by decide) _ _ _ rfl (O.out.alloc _) ⟨wr.heap.size, 0, none⟩ 1 1 [.int .i64 (k : Int)] rfl rfl ?c1 ?c2 ?c3 ?c4 ?c5 ?_)
        case c1 =>
          intro j u hj
          match j, hj with
          | 0, hj => simp at hj; subst hj; simp [Addr.add]
        case c2 => intro u hu; simp at hu; subst hu; rfl
        case c3 => unfold maxLen; omega
        case c4 => omega
        case c5 => simp; omega
        intro v' w2 hown' hgrow _
        have O2 := Lib.hid (show w2.ownsRow w.heap.size 3 1 v' (lst Q (k + 1)).length (ivs (lst Q (k + 1))) by
          rw [E.out]
          unfold ivs at hown' ⊢
          rw [List.map_append, List.length_append]
          exact hown')
        have B2 : Hid (Below w.heap.size w w2) := (B.out.alloc hsz _).grown hgrow (by simp; omega) (fun q hq => (O.out.lt q hq).1)
        have hs2 := B2.out.size
        clear hown' hgrow
        go_wp2
        go_roundw
        case rel => exact ⟨k + 1, by omega, by go_num, hs2, O2.out, B2.out⟩
        case measure => simp [intOf]; omega
    · have hE : k = m := by omega
      subst hE
      go_wp2
      go_ret
      exact ⟨va, vc, rfl, Sep.Reads.of_row O.out, row_new O.out (Nat.le_refl _), B.out⟩

end Go.Proofs.YtoipinnfmjaaaaaGreatDoor.Fr
