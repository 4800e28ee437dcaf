/-
  Twin of package bits: a copy that lies apart.
-/
import Derived.Test.YtmocndhcahongaaDoorBitsNew
import Derived.Laws.CopyOwn
namespace Go.Proofs.YtmocndhcahongaaDoor.Bt
open Go.RowKit

theorem cap_nat {n : Nat} (h : n ≤ 4096) : cap (n : Int) = n := by unfold cap; omega

set_option maxHeartbeats 1000000 in
theorem twin_nil (w : World) :
    Calls Tryd.prog 29 #[.pointer none] w fun e w' => e = .returned (.pointer none) ∧ w = w' := by
  go_enter Tryd.func29, Tryd.ntmps29
  go_wp2
  go_ret
  exact ⟨rfl, rfl⟩

/-- A copy's value. -/
def Twinned (n : Nat) (B : Nat → Bool) (w : World) (e : Ending) (w' : World) : Prop :=
  ∃ p d, e = .returned (.pointer (some ⟨p, 0, none⟩)) ∧ w.heap.size ≤ p ∧ w.heap.size ≤ d ∧ SetAt p d n B w' ∧ Below w.heap.size w w'

/-- A set's words as they lie. -/
def cellsOf (B : Nat → Bool) (n : Nat) : List Value := (List.range (sz n)).map fun k => .int .u64 (wd B k)

theorem SetAt.row {p d n : Nat} {B C : Nat → Bool} {w : World} {t : TypeId} {cur : Array Value} (h : SetAt p d n B w) (hg : w.heap[d]? = some (.cells cur t (0, 0))) (hC : Upto C n) :
    SetAt p d n C (w.setRow d (cellsOf C n).toArray) := by
  have hp : (w.setRow d (cellsOf C n).toArray).heap[p]? = w.heap[p]? := setRow_other w d p _ h.apart
  have hd := setRow_heap w d cur (cellsOf C n).toArray t (0, 0) hg
  refine ⟨(World.cell?_of_block (a := ⟨p, 0, none⟩) hp).trans h.room, (World.cell?_of_block (a := ⟨p, 1, none⟩) hp).trans h.words, fun k hk => ?_, fun k hk => ?_, h.apart, by simpa [World.setRow] using h.inp, by simpa [World.setRow] using h.ind, hC⟩
  · simp only [World.cell?, hd]
    simp [cellsOf, hk]
  · simp only [World.frozen?, hd]
    simp

set_option maxHeartbeats 1000000 in
theorem twin_at {p d n : Nat} {B : Nat → Bool} (w : World) (h : SetAt p d n B w) :
    Calls Tryd.prog 29 #[.pointer (some ⟨p, 0, none⟩)] w (Twinned n B w) := by
  have h0 := h.room
  have HN := Lib.hid (new_any (n : Int) w)
  rw [cap_nat h.upto.1] at HN
  have HA := Lib.hid h
  clear h
  go_enter Tryd.func29, Tryd.ntmps29
  go_wp2_with (go_at_call 6; refine HN.out.mono ?_; rintro e w1 ⟨p2, d2, rfl, hp, hd, hs, hb, hh⟩)
  have HS := Lib.hid hs
  have HB := Lib.hid hb
  have HA1 := Lib.hid (HA.out.below hb HA.out.inp HA.out.ind)
  have HH := Lib.hid hh
  have c1 := hs.words
  have c2 := HA1.out.words
  have HP := Lib.hid (And.intro hp hd)
  clear hp hd hs hb hh h0 HN
  go_still_tail 8, (by kernel_rfl)
  change wpList _ _ _ _ _ w1.drew
  have HR : Hid (SetAt p2 d2 n B (w1.drew.setRow d2 (cellsOf B n).toArray)) := (HS.out.drewN 1).row (C := B) HH.out HA.out.upto
  have HB2 := Lib.hid (below_setRow (HB.out.drew) HP.out.2 (cellsOf B n).toArray)
  have hsrc : ∀ j v, (cellsOf B n)[j]? = some v → w1.drew.cell? ((⟨d, 0, none⟩ : Addr).add j) = some v := by
    intro j v hj
    simp only [cellsOf, List.getElem?_map, Option.map_eq_some_iff] at hj
    obtain ⟨k, hk, rfl⟩ := hj
    obtain ⟨hlt, hk⟩ := List.getElem?_eq_some_iff.1 hk
    rw [List.getElem_range] at hk
    subst hk
    rw [List.length_range] at hlt
    rw [WideShapes.add_plain, Nat.zero_add]
    exact HA1.out.holds _ hlt
  have hlen : (cellsOf B n).length = sz n := by simp [cellsOf]
  have hone : ∀ v ∈ cellsOf B n, v.oneCell' = true := by
    intro v hv
    simp only [cellsOf, List.mem_map] at hv
    obtain ⟨k, _, rfl⟩ := hv
    rfl
  have hrow : (madeCells #[Value.int .u64 0] (sz n)).toList.take 0 ++ (cellsOf B n ++ (madeCells #[Value.int .u64 0] (sz n)).toList.drop (0 + (cellsOf B n).length)) = cellsOf B n := by
    rw [hlen]; simp [madeCells]
  refine wpList_copy_own rfl (.tmp 14) (.tmp 18) 44 44 rfl 50 Tryd.underlying44 (by kernel_rfl) d2 0 (sz n) (sz n) ⟨d, 0, none⟩ (sz n) (sz n) rfl rfl (madeCells #[.int .u64 0] (sz n)) 50 HH.out (cellsOf B n) (by rw [hlen]; exact (Nat.min_self _).symm) hsrc (by rw [hlen]; simp [madeCells]) hone ?_
  rw [hrow]
  clear hsrc hlen hone hrow c1 c2 HH HS HA HA1 HB
  generalize w1.drew.setRow d2 (cellsOf B n).toArray = w3 at *
  go_wp2
  go_ret
  exact ⟨p2, d2, rfl, HP.out.1, HP.out.2, HR.out, HB2.out⟩

end Go.Proofs.YtmocndhcahongaaDoor.Bt
