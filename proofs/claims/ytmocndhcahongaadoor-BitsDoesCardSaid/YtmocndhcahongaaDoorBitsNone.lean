/-
  The statements' own function awake, and the walk of the statement on nil sets.
-/
import Derived.Test.YtmocndhcahongaaDoorBitsOr
import Derived.Test.YtmocndhcahongaaDoorBitsTwin
import Derived.Test.YtmocndhcahongaaDoorBitsList
namespace Go.Proofs.YtmocndhcahongaaDoor.Bt
open Go.RowKit

/-- True comes back; nothing that was there is written. -/
def Yes (w : World) (e : Ending) (w' : World) : Prop := e = .returned (.bool true) ∧ Below w.heap.size w w'

/-- A set of one's own, behind a beginning. -/
structure Own (W : World) (p d n : Nat) (B : Nat → Bool) (w : World) : Prop where
  pos : 0 < W.heap.size
  hp : W.heap.size ≤ p
  hd : W.heap.size ≤ d
  set : SetAt p d n B w
  below : Below W.heap.size W w
  tab : Tab w

theorem Own.drewN {W : World} {p d n : Nat} {B : Nat → Bool} {w : World} (h : Own W p d n B w) (m : Nat) : Own W p d n B (w.drewN m) :=
  ⟨h.pos, h.hp, h.hd, h.set.drewN m, h.below.trans ⟨rfl, rfl, rfl, Nat.le_refl _, fun _ _ => rfl⟩, h.tab⟩

theorem Keeps.tab {d : Nat} {w w' : World} (h : Keeps d w w') (hT : Tab w) (hd : d ≠ 0) : Tab w' := fun j hj => by
  have : w'.heap[0]? = w.heap[0]? := h.block 0 hT.pos (fun e => hd e.symm)
  exact (World.cell?_of_block (a := ⟨0, j, none⟩) this).trans (hT j hj)

theorem Own.wrote {W : World} {p d n : Nat} {B C : Nat → Bool} {w w' : World} (h : Own W p d n B w) (hs : SetAt p d n C w') (hk : Keeps d w w') : Own W p d n C w' :=
  ⟨h.pos, h.hp, h.hd, hs, h.below.trans (hk.below h.hd h.below.size), hk.tab h.tab (by have := h.pos; have := h.hd; omega)⟩

theorem Own.went {W : World} {p d n : Nat} {B : Nat → Bool} {w w' : World} (h : Own W p d n B w) (hb : Below w.heap.size w w') : Own W p d n B w' :=
  ⟨h.pos, h.hp, h.hd, h.set.below hb h.set.inp h.set.ind, h.below.trans (hb.mono h.below.size), h.tab.below hb h.tab.pos⟩

theorem Own.start {W w : World} {p d n : Nat} {B : Nat → Bool} (hT : Tab W) (hp : W.heap.size ≤ p) (hd : W.heap.size ≤ d) (hs : SetAt p d n B w) (hb : Below W.heap.size W w) : Own W p d n B w :=
  ⟨hT.pos, hp, hd, hs, hb, hT.below hb hT.pos⟩

/-- No number. -/
def no : Nat → Bool := fun _ => false
/-- 70 alone. -/
def o70 : Nat → Bool := put no 70

theorem no_upto {n : Nat} (h : n ≤ 4096) : Upto no n := .empty h
theorem o70_upto : Upto o70 100 := (no_upto (by omega)).put (by omega)
theorem o70_next : next o70 0 = 70 := by
  have := next_yes (m := 70) o70_upto 0 (by omega) (by simp [o70, put]) (fun j _ hj => by
    have : ¬ j = 70 := by omega
    simp [o70, put, no, this])
  simpa using this
theorem o70_count : (els o70).length = 1 := by rw [els_at o70_upto]; decide
theorem cap_100 : cap 100 = 100 := by decide
theorem o70_has : has o70 70 = true := by decide
theorem o70_put : putR no 100 70 = true ∧ putI no 100 70 = o70 ∧ putR o70 100 70 = false ∧ putI o70 100 70 = o70 := by
  have e : putI no 100 70 = o70 := by unfold putI; rw [if_pos (by omega)]; rfl
  refine ⟨by decide, e, by decide, ?_⟩
  unfold putI
  rw [if_pos (by omega)]
  exact put_same (by decide)

set_option maxHeartbeats 2000000 in
set_option maxRecDepth 100000 in
theorem awake_any (w : World) (hT : Tab w) : Calls Tryd.prog 27 #[] w (Yes w) := by
  have HT := Lib.hid hT
  have HN := Lib.hid (new_any 100 w)
  rw [cap_100] at HN
  obtain ⟨e1, e2, e3, e4⟩ := o70_put
  have H1 := Lib.hid e1
  have H2 := Lib.hid e2
  have H3 := Lib.hid e3
  have H4 := Lib.hid e4
  clear hT e1 e2 e3 e4
  go_enter Tryd.func27, Tryd.ntmps27
  go_wp2_with (go_at_call 6; refine HN.out.mono ?_; rintro e w1 ⟨p, d, rfl, hp, hd, hs, hb, hh⟩; have HO : Hid (Own w p d 100 no w1) := Own.start HT.out hp hd hs hb; clear hp hd hs hb hh)
  have HP := Lib.hid (put_any w1 HO.out.set 70 (by omega))
  rw [H1.out, H2.out] at HP
  refine HP.out.mono ?_
  rintro e w2 ⟨rfl, hs, hk⟩
  have HO2 := Lib.hid (HO.out.wrote hs hk)
  have HP2 := Lib.hid (put_any w2 hs 70 (by omega))
  rw [H3.out, H4.out] at HP2
  clear hs hk HP HO
  go_wp2_with fail
  refine HP2.out.mono ?_
  rintro e w3 ⟨rfl, hs, hk⟩
  have HO3 := Lib.hid (HO2.out.wrote hs hk)
  have HH := Lib.hid (has_any w3 (.at_ hs) 70 (by omega))
  rw [o70_has] at HH
  clear hs hk HP2 HO2
  go_wp2_with fail
  refine HH.out.mono ?_
  rintro e w4 ⟨rfl, m, rfl⟩
  have HO4 := Lib.hid (HO3.out.drewN m)
  clear HO3 HH
  generalize w3.drewN m = w4 at *
  have HX := Lib.hid (next_any w4 (.at_ HO4.out.set) HO4.out.tab 0 (by omega))
  have HC := Lib.hid (count_any w4 (.at_ HO4.out.set))
  have HR := Lib.hid (room_any w4 (.at_ HO4.out.set))
  rw [o70_next] at HX
  rw [o70_count] at HC
  go_wp2_with (first | (go_at_call 16; refine HX.out.mono ?_; rintro e w' ⟨rfl, rfl⟩) | (go_at_call 25; refine HC.out.mono ?_; rintro e w' ⟨rfl, rfl⟩) | (go_at_call 20; refine HR.out.mono ?_; rintro e w' ⟨rfl, rfl⟩))
  go_ret
  exact ⟨rfl, HO4.out.below⟩

end Go.Proofs.YtmocndhcahongaaDoor.Bt
