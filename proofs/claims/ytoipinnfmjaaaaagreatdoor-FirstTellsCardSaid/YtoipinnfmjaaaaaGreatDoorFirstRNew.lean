/-
  The plain answers of layer 11: rows: new rows in a list. Condition: the numbers are within a machine's reach.
-/
import Derived.Test.YtoipinnfmjaaaaaGreatDoorFirstRAt
namespace Go.Proofs.YtoipinnfmjaaaaaGreatDoor.Fr
open Go.RowKit Go.Maps
open Go.Proofs.YtoipinnfmjaaaaaGreatDoor.Gr
open Go.Proofs.YtoipinnfmjaaaaaGreatDoor.Fi
open Go.Proofs.YtoipinnfmjaaaaaGreatDoor.Bt (Keeps)
open Go.Proofs.YtoipinnfmjaaaaaGreatDoor.Rw (Bk row_shape)
set_option linter.unusedVariables false

def rowV (m : Nat) (ds : Nat → Nat) (i : Nat) : Value := .slice (some ⟨ds i, 0, none⟩) m m
/-- A list of rows, each in a block of its own. -/
structure Rows (base m k : Nat) (ds : Nat → Nat) (v : Value) (w : World) : Prop where
  row : w.ownsRow base 45 1 v k ((List.range k).map (rowV m ds))
  each : ∀ i, i < k → BRow (ds i) m no0 w
  inj : ∀ i j, i < k → j < k → ds i = ds j → i = j
  lo : ∀ i, i < k → base ≤ ds i
  off : ∀ i, i < k → v.ownBlock ≠ some (ds i)
theorem Rows.went {base m k : Nat} {ds : Nat → Nat} {v : Value} {w w' : World} (h : Rows base m k ds v w) (hb : Below w.heap.size w w') : Rows base m k ds v w' :=
  ⟨Sep.ownsRow_at h.row fun g hg => hb.block g (h.row.lt g hg).2, fun i hi => (h.each i hi).went hb, h.inj, h.lo, h.off⟩
theorem info_row : (Tryz.prog.info? 45).map (fun i => (i.zero, i.size, i.bytes)) = some (some (.slice none 0 0), 1, 24) := by kernel_rfl
theorem rowV_one (m d : Nat) : (rowV m (fun _ => d) 0).oneCell' = true := rfl
/-- A row more. -/
theorem Rows.snoc {base m k d : Nat} {ds : Nat → Nat} {v v' : Value} {w w2 : World} (h : Rows base m k ds v w) (hd : d = w.heap.size) (hw : base ≤ w.heap.size)
    (hO : w2.ownsRow base 45 1 v' (k + 1) ((List.range k).map (rowV m ds) ++ [.slice (some ⟨d, 0, none⟩) m m]))
    (hg : ((w.alloc (.cells (madeCells #[.bool false] m) 4)).alloc (.cells #[.slice (some ⟨d, 0, none⟩) m m] 45)).grownBy w2 v.ownBlock)
    (hl : v'.ownBlock = v.ownBlock ∨ v'.ownBlock = some (w.heap.size + 1 + 1)) :
    Rows base m (k + 1) (fun i => if i = k then d else ds i) v' w2 := by
  have hv : ∀ g, v.ownBlock = some g → g < w.heap.size := fun g hg => (h.row.lt g hg).2
  have hds : ∀ i, i < k → ds i < w.heap.size := fun i hi => (h.each i hi).lt
  have b2 : Below w.heap.size w ((w.alloc (.cells (madeCells #[.bool false] m) 4)).alloc (.cells #[.slice (some ⟨d, 0, none⟩) m m] 45)) := Gr.step (boxed _ _) (boxed _ _)
  have hs2 := hg.size
  refine ⟨?_, fun i hi => ?_, fun i j hi hj e => ?_, fun i hi => ?_, fun i hi e => ?_⟩
  · have e : (List.range (k + 1)).map (rowV m fun i => if i = k then d else ds i) = (List.range k).map (rowV m ds) ++ [.slice (some ⟨d, 0, none⟩) m m] := by
      rw [List.range_succ, List.map_append, List.map_singleton]
      congr 1
      · refine List.map_congr_left fun i hi => ?_
        have := List.mem_range.1 hi
        have hne : ¬ i = k := by omega
        show Value.slice (some ⟨if i = k then d else ds i, 0, none⟩) m m = _
        rw [if_neg hne]
        rfl
      · show [Value.slice (some ⟨if k = k then d else ds k, 0, none⟩) m m] = _
        rw [if_pos rfl]
    rw [e]
    exact hO
  · by_cases e : i = k
    · subst e
      rw [if_pos rfl]
      have B := brow_new m w
      rw [← hd] at B
      have B2 := B.went (boxed _ (.cells #[.slice (some ⟨d, 0, none⟩) m m] 45))
      exact B2.block (hg.block d B2.lt fun e => by have := hv d e.symm; omega) hs2
    · rw [if_neg e]
      have B := (h.each i (by omega)).went b2
      exact B.block (hg.block _ B.lt fun e2 => h.off i (by omega) e2.symm) hs2
  · have hi2 := hds i
    have hj2 := hds j
    by_cases e1 : i = k
    · by_cases e2 : j = k
      · omega
      · rw [if_pos e1, if_neg e2] at e
        have := hj2 (by omega)
        omega
    · by_cases e2 : j = k
      · rw [if_neg e1, if_pos e2] at e
        have := hi2 (by omega)
        omega
      · rw [if_neg e1, if_neg e2] at e
        exact h.inj i j (by omega) (by omega) e
  · by_cases e1 : i = k
    · rw [if_pos e1]
      omega
    · rw [if_neg e1]
      exact h.lo i (by omega)
  · rcases hl with h1 | h1
    · rw [h1] at e
      by_cases e1 : i = k
      · rw [if_pos e1] at e
        have := hv _ e
        omega
      · rw [if_neg e1] at e
        exact h.off i (by omega) e
    · rw [h1] at e
      injection e with e
      by_cases e1 : i = k
      · rw [if_pos e1] at e
        omega
      · rw [if_neg e1] at e
        have := hds i (by omega)
        omega

/-- New rows come back; nothing that was there is written. -/
def RowsEnd (n m : Nat) (w : World) (e : Ending) (w' : World) : Prop := ∃ v ds, e = .returned v ∧ Rows w.heap.size m n ds v w' ∧ Below w.heap.size w w'
def RoRel (n m : Nat) (W : World) (v i : Value) (w : World) : Prop :=
  ∃ (k : Nat) (ds : Nat → Nat), k ≤ n ∧ i = .int .i64 k ∧ Rows W.heap.size m k ds v w ∧ W.heap.size ≤ w.heap.size ∧ Below W.heap.size W w

set_option maxRecDepth 100000 in
set_option maxHeartbeats 4000000 in
theorem rows_any (n m : Nat) (w : World) (hn : n ≤ 4000) (hm : m ≤ 4000) :
    Calls Tryz.prog 25 #[.int .i64 (n : Int), .int .i64 (m : Int)] w (RowsEnd n m w) := by
  obtain ⟨i0, hi, hz0, hz1, hz2⟩ := info_parts info_row
  have hmk := fun w => make_bools m (by omega) w
  go_enter Tryz.func25, Tryz.ntmps25
  go_wp2
  go_loopw [5, 6] (fun v i wr => RoRel n m w v i wr) (fun _ i _ => n - (intOf i).toNat)
  case atStart => exact ⟨0, fun _ => 0, Nat.zero_le _, rfl, ⟨World.ownsRow_nil _ _ _ _, (fun i hi => absurd hi (by omega)), (fun i j hi => absurd hi (by omega)), (fun i hi => absurd hi (by omega)), (fun i hi => absurd hi (by omega))⟩, Nat.le_refl _, .refl _ _⟩
  case round =>
    obtain ⟨k, ds, hk, rfl, hR, hsz, hb⟩ := hrel
    have R := Lib.hid hR
    have B := Lib.hid hb
    obtain ⟨va, vc, rfl⟩ := row_shape hR.row
    clear hR hb
    by_cases hlt : k < n
    · have i0' : (0 : Int) ≤ (k : Int) := by omega
      go_wp2_with (at_builtin; refine Rw.wpList_append_rows _ rfl _ _ 46 rfl w.heap.size 45 i0 (.slice none 0 0) 1 24 Tryz.underlying46 hi hz0 hz1 hz2 rfl (by decide) _ k _ rfl ((R.out.row.alloc _).alloc _) 0 (.slice (some ⟨wr.heap.size + 1, 0, none⟩) 1 1) 1 [.slice (some ⟨wr.heap.size, 0, none⟩) m m] rfl ?c0 ?c2 ?c3 ?c4 ?c5 ?_)
      case c0 =>
        have := World.ownsRow_lit (base := 0) (e := 45) (size := 1) (wr.alloc (.cells (madeCells #[.bool false] m) 4)) #[.slice (some ⟨wr.heap.size, 0, none⟩) m m] 1 (by omega) (by decide) rfl
        simpa using this
      case c2 => intro u hu; simp at hu; subst hu; rfl
      case c3 => unfold maxLen; omega
      case c4 => omega
      case c5 => simp; omega
      intro v' w2 hown' hgrow hl'
      have R2 := Lib.hid (R.out.snoc rfl hsz hown' hgrow hl')
      have B2 : Hid (Below w.heap.size w w2) := ((B.out.alloc hsz _).alloc (by simp; omega) _).grown hgrow (by simp; omega) (fun q hq => (R.out.row.lt q hq).1)
      have hs2 := B2.out.size
      clear hown' hgrow hl'
      go_wp2
      go_roundw
      case rel => exact ⟨k + 1, _, by omega, by go_num, R2.out, hs2, B2.out⟩
      case measure => simp [intOf]; omega
    · have hE : k = n := by omega
      subst hE
      go_wp2
      go_ret
      exact ⟨_, ds, rfl, R.out, B.out⟩

end Go.Proofs.YtoipinnfmjaaaaaGreatDoor.Fr
