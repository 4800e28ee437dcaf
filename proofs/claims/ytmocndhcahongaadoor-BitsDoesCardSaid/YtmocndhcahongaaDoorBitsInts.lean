/-
  Two lists held against each other.
-/
import Derived.Test.YtmocndhcahongaaDoorBitsRefLoops
namespace Go.Proofs.YtmocndhcahongaaDoor.Bt
open Go.RowKit

/-- A list's value: its cells. -/
def RowV (v : Value) (l : List Nat) (w : World) : Prop :=
  ∃ ao cp, v = .slice ao l.length cp ∧ ∀ i, i < l.length → ∃ g, ao = some ⟨g, 0, none⟩ ∧ w.cell? ⟨g, i, none⟩ = some (.int .i64 ((l.getD i 0 : Nat) : Int))

theorem rowV_of_own {v : Value} {l : List Nat} {w : World} {b : Nat} {e : TypeId} (h : w.ownsRow b e 1 v l.length (l.map iv)) : RowV v l w := by
  have hl := h.1
  rcases h.2 with ⟨rfl, h0⟩ | ⟨g, cp, cur, rfl, _⟩
  · refine ⟨none, 0, by rw [h0], fun i hi => by omega⟩
  · refine ⟨_, _, rfl, fun i hi => ⟨g, rfl, ?_⟩⟩
    rw [h.cellAt i (by omega)]
    simp [iv, hi]

theorem RowV.below {v : Value} {l : List Nat} {w w' : World} (h : RowV v l w) (hb : Below w.heap.size w w') : RowV v l w' := by
  obtain ⟨ao, cp, rfl, hc⟩ := h
  refine ⟨ao, cp, rfl, fun i hi => ?_⟩
  obtain ⟨g, e, c⟩ := hc i hi
  exact ⟨g, e, (hb.cell (p := ⟨g, i, none⟩) (lt_of_cell' c)).trans c⟩

/-- The same below k. -/
def Same2 (l l' : List Nat) (k : Nat) : Prop := ∀ i, i < k → l.getD i 0 = l'.getD i 0

theorem same2_end {l l' : List Nat} (hl : l.length = l'.length) (h : Same2 l l' l.length) : (l == l') = true := by
  rw [beq_iff_eq]
  apply List.ext_getElem hl
  intro i h1 h2
  have := h i h1
  simpa [List.getD, h1, h2] using this

theorem same2_not {l l' : List Nat} {k : Nat} (h : l.getD k 0 ≠ l'.getD k 0) : (l == l') = false := by
  rw [beq_eq_false_iff_ne]
  intro e
  exact h (by rw [e])

/-- The world of a round. -/
def IntsInv (l l' : List Nat) (w : World) (k : Nat) (wr : World) : Prop := (∃ q, wr = w.drewN q) ∧ Same2 l l' k

set_option maxHeartbeats 1000000 in
theorem ints_any {v u : Value} {l l' : List Nat} (w : World) (h : RowV v l w) (g : RowV u l' w) (hl' : l'.length ≤ 4096) :
    Calls Tryd.prog 22 #[v, u] w (Draws (.bool (l == l')) w) := by
  have HV := Lib.hid h
  have HU := Lib.hid g
  obtain ⟨ao, cp, rfl, _⟩ := h
  obtain ⟨bo, cp', rfl, _⟩ := g
  by_cases he : l.length = l'.length
  · have HE := Lib.hid he
    rw [he] at HV ⊢
    clear he
    go_enter Tryd.func22, Tryd.ntmps22
    go_wp2
    go_loopw [5] (fun s wr => ∃ k : Nat, k ≤ l'.length ∧ s = .int .i64 k ∧ IntsInv l l' w k wr) (fun s _ => l'.length - (intOf s).toNat)
    case atStart => exact ⟨0, Nat.zero_le _, rfl, ⟨0, rfl⟩, fun i hi => by omega⟩
    case round =>
      obtain ⟨k, hk, rfl, ⟨q, rfl⟩, hs⟩ := hrel
      have HS := Lib.hid hs
      clear hs
      by_cases hlt : k < l'.length
      · have HV2 := HV.out
        have HU2 := HU.out
        obtain ⟨ao2, cp2, e1, hc1⟩ := HV2
        obtain ⟨bo2, cp3, e2, hc2⟩ := HU2
        obtain ⟨rfl, hq, rfl⟩ : ao = ao2 ∧ l'.length = l.length ∧ cp = cp2 := by simpa using e1
        clear hq
        obtain ⟨rfl, rfl⟩ : bo = bo2 ∧ cp' = cp3 := by simpa using e2
        obtain ⟨g1, rfl, k1⟩ := hc1 k (by rw [HE.out]; exact hlt)
        obtain ⟨g2, rfl, k2⟩ := hc2 k hlt
        have hlt2 : (k : Int) < (l'.length : Int) := by omega
        have hk0 : (0 : Int) ≤ (k : Int) := by omega
        clear e1 e2 hc1 hc2
        by_cases hz : l.getD k 0 = l'.getD k 0
        · have HN : Hid (Same2 l l' (k + 1)) := fun i hi => by
            by_cases e : i = k
            · rw [e]; exact hz
            · exact HS.out i (by omega)
          have hne : (((l.getD k 0 : Nat) : Int) != ((l'.getD k 0 : Nat) : Int)) = false := by rw [bne_eq_false_iff_eq, hz]
          clear hz
          generalize l.getD k 0 = z1 at *
          generalize l'.getD k 0 = z2 at *
          go_wp2_with fail
          go_quiet (fail)
          go_wp2
          go_roundw
          case rel => exact ⟨k + 1, by omega, by go_num, ⟨q + nq, rfl⟩, HN.out⟩
          case measure => simp [intOf]; omega
        · have HN := Lib.hid (same2_not hz)
          have hne : (((l.getD k 0 : Nat) : Int) != ((l'.getD k 0 : Nat) : Int)) = true := by rw [bne_iff_ne]; omega
          clear hz
          generalize l.getD k 0 = z1 at *
          generalize l'.getD k 0 = z2 at *
          go_wp2_with fail
          go_quiet (fail)
          go_wp2
          go_ret
          exact ⟨by rw [HN.out]; rfl, q + nq, by rw [World.drewN_drewN]⟩
      · have HN := Lib.hid (same2_end HE.out (by rw [HE.out, show l'.length = k from by omega]; exact HS.out))
        go_wp2
        go_ret
        exact ⟨by rw [HN.out]; rfl, q, rfl⟩
  · have HN : Hid ((l == l') = false) := by
      rw [Hid, beq_eq_false_iff_ne]
      intro e
      exact he (by rw [e])
    have hne : ((l.length : Int) != (l'.length : Int)) = true := by rw [bne_iff_ne]; omega
    clear he
    go_enter Tryd.func22, Tryd.ntmps22
    go_wp2
    go_ret
    exact ⟨by rw [HN.out]; rfl, 0, rfl⟩

end Go.Proofs.YtmocndhcahongaaDoor.Bt
