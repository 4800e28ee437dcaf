/-
  List of package bits: the numbers in order, in a block of its own.
-/
import Derived.Test.YtljblpekpmgmaaaGreatDoorBitsNew
import Derived.Deep.LoopGhost
namespace Go.Proofs.YtljblpekpmgmaaaGreatDoor.Bt
open Go.RowKit

/-- The numbers below k. -/
def pre (B : Nat → Bool) (k : Nat) : List Nat := (List.range k).filter B

theorem pre_zero (B : Nat → Bool) : pre B 0 = [] := rfl
theorem pre_len (B : Nat → Bool) (k : Nat) : (pre B k).length ≤ k := count_len B k
theorem pre_els (B : Nat → Bool) : pre B 4096 = els B := rfl

theorem pre_gap {B : Nat → Bool} {k : Nat} : ∀ d, (∀ j, k ≤ j → j < k + d → B j = false) → pre B (k + d) = pre B k
  | 0, _ => rfl
  | d + 1, h => by
    have ih := pre_gap d fun j h1 h2 => h j h1 (by omega)
    have hb := h (k + d) (by omega) (by omega)
    unfold pre at *
    rw [← Nat.add_assoc, List.range_succ, List.filter_append, ih]
    simp [hb]

theorem pre_hit {B : Nat → Bool} {k m : Nat} (hk : k ≤ m) (hb : B m = true) (h : ∀ j, k ≤ j → j < m → B j = false) : pre B (m + 1) = pre B k ++ [m] := by
  obtain ⟨d, rfl⟩ : ∃ d, m = k + d := ⟨m - k, by omega⟩
  have e := pre_gap d h
  unfold pre at *
  rw [List.range_succ, List.filter_append, e]
  simp [hb]

theorem pre_end {B : Nat → Bool} {k : Nat} (hk : k ≤ 4096) (h : ∀ j, j < 4096 → k ≤ j → B j = false) : pre B k = els B := by
  obtain ⟨d, hd⟩ : ∃ d, 4096 = k + d := ⟨4096 - k, by omega⟩
  rw [← pre_els, hd]
  exact (pre_gap d fun j h1 h2 => h j (by omega) h1).symm

/-- The value of a number. -/
def iv (i : Nat) : Value := .int .i64 i

theorem lt_of_cell' {w : World} {b o : Nat} {v : Value} (h : w.cell? ⟨b, o, none⟩ = some v) : b < w.heap.size := by
  refine Classical.byContradiction fun hn => ?_
  have : w.heap[b]? = none := Array.getElem?_eq_none (by omega)
  simp [World.cell?, this] at h

theorem SetV.below {v : Value} {n : Nat} {B : Nat → Bool} {w w' : World} (h : SetV v n B w) (hb : Below w.heap.size w w') : SetV v n B w' := by
  cases h with
  | nil => exact .nil _
  | at_ h => exact .at_ (h.below hb h.inp h.ind)

theorem Tab.below {w w' : World} {m : Nat} (h : Tab w) (hb : Below m w w') (hm : 0 < m) : Tab w' := fun j hj => by
  rw [hb.cell (p := ⟨0, j, none⟩) hm]; exact h j hj

theorem Tab.pos {w : World} (h : Tab w) : 0 < w.heap.size := lt_of_cell' (h 0 (by decide))

theorem Tab.drewN {w : World} (h : Tab w) (m : Nat) : Tab (w.drewN m) := h

/-- A list's value, its cells in a block of its own; nothing that was there is written. -/
def Listed (B : Nat → Bool) (w : World) (e : Ending) (w' : World) : Prop :=
  ∃ v, e = .returned v ∧ w'.ownsRow w.heap.size 3 1 v (els B).length ((els B).map iv) ∧ Below w.heap.size w w'

theorem info_int : (Tryz.prog.info? 3).map (fun i => (i.zero, i.size, i.bytes)) = some (some (.int .i64 0), 1, 8) := by kernel_rfl

def ListInv (B : Nat → Bool) (w : World) (g : Nat) (v i : Value) (wr : World) : Prop :=
  ∃ k, k ≤ 4096 ∧ g = 4096 - k ∧ i = .int .i64 (next B (k : Int)) ∧ wr.ownsRow w.heap.size 3 1 v (pre B k).length ((pre B k).map iv) ∧ Below w.heap.size w wr

set_option maxHeartbeats 2000000 in
set_option maxRecDepth 100000 in
theorem list_any {v : Value} {n : Nat} {B : Nat → Bool} (w : World) (h : SetV v n B w) (hT : Tab w) :
    Calls Tryz.prog 32 #[v] w (Listed B w) := by
  obtain ⟨i0, hi, hz0, hz1, hz2⟩ := info_parts info_int
  have HC := Lib.hid (count_any w h)
  have HV := Lib.hid h
  have HT := Lib.hid hT
  have hl := els_len B
  clear h hT
  go_enter Tryz.func32, Tryz.ntmps32
  go_wp2_with (first | (go_at_call 63; refine HC.out.mono ?_; rintro e w' ⟨rfl, rfl⟩) | (refine wpList_make_own _ rfl _ _ 34 rfl w.heap.size 3 i0 (.int .i64 0) 1 Tryz.underlying34 hi hz0 hz1 .i64 .i64 _ (els B).length rfl rfl rfl (by rw [hz2]; omega) (by unfold maxLen; omega) (Nat.le_refl _) ?_))
  intro w1 hown hg
  have HO := Lib.hid hown
  have HB1 := Lib.hid ((Below.refl w.heap.size w).grown hg (Nat.le_refl _) (by simp))
  have HN := Lib.hid (next_any w1 (HV.out.below HB1.out) (HT.out.below HB1.out HT.out.pos) 0 (by omega))
  clear hown hg
  go_wp2_with (go_at_call 64; refine HN.out.mono ?_; rintro e w' ⟨rfl, rfl⟩)
  go_loopg [3, 4] 4096 (fun g s i wr => ListInv B w g s i wr)
  case atStart => exact ⟨0, by omega, by omega, rfl, HO.out, HB1.out⟩
  case round =>
    obtain ⟨k, hk, hg, hi4, hown, hb⟩ := hrel
    have HG := Lib.hid hg
    have HO2 := Lib.hid hown
    have HB := Lib.hid hb
    clear hg hown hb
    rcases next_or (B := B) (k : Int) with ⟨hn, hno⟩ | ⟨m, hn, hm, hkm, hbm, hno⟩
    · rw [hn] at hi4
      subst hi4
      have HE := Lib.hid (pre_end hk fun j h1 h2 => hno j h1 (by omega))
      clear hn hno
      go_wp2
      go_ret
      exact ⟨_, rfl, by rw [← HE.out]; exact HO2.out, HB.out⟩
    · rw [hn] at hi4
      subst hi4
      have HE := Lib.hid (pre_hit (k := k) (by omega) hbm fun j h1 h2 => hno j (by omega) h2)
      have hp := pre_len B k
      clear hn hno hbm
      go_wp2_with (at_builtin; refine wpList_append_own _ rfl _ _ 34 rfl w.heap.size 3 i0 (.int .i64 0) 1 8 Tryz.underlying34 hi hz0 hz1 hz2 rfl (by decide) _ _ _ rfl (HO2.out.alloc _) ⟨wr.heap.size, 0, none⟩ 1 1 [iv m] rfl rfl ?c1 ?c2 ?c3 ?c4 ?c5 ?_)
      case c1 =>
        intro j u hj
        match j, hj with
        | 0, hj => simp at hj; subst hj; simp [Addr.add, iv]
      case c2 => intro u hu; simp at hu; subst hu; rfl
      case c3 => unfold maxLen; omega
      case c4 => omega
      case c5 => have := HB.out.size; simp; omega
      intro v' w2 hown' hgrow _
      have HO3 := Lib.hid (show w2.ownsRow w.heap.size 3 1 v' (pre B (m + 1)).length ((pre B (m + 1)).map iv) by rw [HE.out]; simpa using hown')
      have HB2 : Hid (Below w.heap.size w w2) := (HB.out.alloc HB.out.size _).grown hgrow (by have := HB.out.size; simp; omega) (fun q hq => (HO2.out.lt q hq).1)
      have HN2 := Lib.hid (next_any w2 (HV.out.below HB2.out) (HT.out.below HB2.out HT.out.pos) ((m : Int) + 1) (by omega))
      clear hown' hgrow
      go_wp2_with (go_at_call 64; refine HN2.out.mono ?_; rintro e w' ⟨rfl, rfl⟩)
      go_roundg (4096 - (m + 1))
      case measure => rw [HG.out]; omega
      case rel => exact ⟨m + 1, by omega, rfl, by rw [show ((m + 1 : Nat) : Int) = (m : Int) + 1 from by omega], HO3.out, HB2.out⟩

end Go.Proofs.YtljblpekpmgmaaaGreatDoor.Bt
