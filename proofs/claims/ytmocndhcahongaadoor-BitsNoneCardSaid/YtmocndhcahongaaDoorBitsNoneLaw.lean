/-
  The walk of the statement on nil sets: every call on none answers none, and writes nothing.
-/
import Derived.Test.YtmocndhcahongaaDoorBitsNone
namespace Go.Proofs.YtmocndhcahongaaDoor.Bt
open Go.RowKit

theorem no_has (i : Int) : has no i = false := by simp [has, no]
theorem no_els : els no = [] := by simp [els, no]
theorem no_next (i : Int) : next no i = -1 := next_no i fun _ _ => rfl
theorem no_meet (B : Nat → Bool) : meet no B = false := meet_no fun _ h => by cases h
theorem meet_none (B : Nat → Bool) : meet B no = false := meet_no fun _ _ => rfl
theorem gains_none (B : Nat → Bool) (n : Nat) : gains B n no = false := gains_no fun _ _ h => by cases h
theorem orr_none (B : Nat → Bool) (n : Nat) : orr B n no = B := by funext j; simp [orr, no]
theorem same_self (B : Nat → Bool) : same B B = true := by simp [same]

theorem ownsRow_none {w : World} {b : Nat} {e : TypeId} {v : Value} (h : w.ownsRow b e 1 v ([] : List Nat).length (([] : List Nat).map iv)) : ∃ ao cp, v = .slice ao 0 cp := by
  rcases h.2 with ⟨rfl, _⟩ | ⟨g, cp, cur, rfl, _⟩
  · exact ⟨_, _, rfl⟩
  · exact ⟨_, _, rfl⟩

set_option maxHeartbeats 2000000 in
set_option maxRecDepth 100000 in
theorem none_any (i n : Int) (w : World) (hi : i ≤ 9223372036854775807) (hT : Tab w) : Calls Tryd.prog 5 #[.int .i64 i, .int .i64 n] w (Yes w) := by
  have HT := Lib.hid hT
  have HN := Lib.hid (new_any n w)
  clear hT
  obtain ⟨c, hc⟩ : ∃ c, cap n = c := ⟨_, rfl⟩
  rw [hc] at HN
  have HC := Lib.hid hc
  clear hc
  by_cases h0 : n < 0
  · have he : ((c : Int) == 0) = true := by have := HC.out; unfold cap at this; simp; omega
    go_enter Tryd.func5, Tryd.ntmps5
    go_wp2_with fail
    refine HN.out.mono ?_
    rintro e w1 ⟨p, d, rfl, hp, hd, hs, hb, hh⟩
    have HO : Hid (Own w p d c no w1) := Own.start HT.out hp hd hs hb
    clear hp hd hs hb hh HN
    go_wp2_with fail
    refine (put_nil i w1).mono ?_
    rintro e w' ⟨rfl, rfl⟩
    go_wp2_with fail
    refine (drop_nil i (by omega) w1).mono ?_
    rintro e w' ⟨rfl, m, rfl⟩
    have HO2 := Lib.hid (HO.out.drewN m)
    clear HO
    generalize w1.drewN m = w2 at *
    have HH := Lib.hid (has_any w2 (.nil w2) i (by omega))
    rw [show has (fun _ => false) i = false from no_has i] at HH
    go_wp2_with fail
    refine HH.out.mono ?_
    rintro e w' ⟨rfl, m2, rfl⟩
    have HO3 := Lib.hid (HO2.out.drewN m2)
    clear HO2 HH
    generalize w2.drewN m2 = w3 at *
    go_wp2_with fail
    refine (or_nil w3).mono ?_
    rintro e w' ⟨rfl, rfl⟩
    have HM := Lib.hid (meet_any w3 (.nil w3) (.at_ HO3.out.set))
    rw [show meet (fun _ => false) no = false from no_meet _] at HM
    go_wp2_with fail
    refine HM.out.mono ?_
    rintro e w' ⟨rfl, rfl⟩
    have HR := Lib.hid (or_any w3 HO3.out.set (.nil w3))
    rw [show gains no c (fun _ => false) = false from gains_none _ _, show orr no c (fun _ => false) = no from orr_none _ _] at HR
    go_wp2_with fail
    refine HR.out.mono ?_
    rintro e w4 ⟨rfl, hs, hk⟩
    have HO4 := Lib.hid (HO3.out.wrote hs hk)
    clear hs hk HO3 HM HR
    have HM := Lib.hid (meet_any w4 (.at_ HO4.out.set) (.nil w4))
    rw [show meet no (fun _ => false) = false from no_meet _] at HM
    go_wp2_with fail
    refine HM.out.mono ?_
    rintro e w' ⟨rfl, rfl⟩
    have HQ := Lib.hid (count_any w4 (.nil w4))
    rw [show els (fun _ => false) = [] from no_els] at HQ
    go_wp2_with fail
    refine HQ.out.mono ?_
    rintro e w' ⟨rfl, rfl⟩
    have HR := Lib.hid (room_any w4 (.nil w4))
    go_wp2_with fail
    refine HR.out.mono ?_
    rintro e w' ⟨rfl, rfl⟩
    have HL := Lib.hid (list_any w4 (.nil w4) HO4.out.tab)
    go_wp2_with fail
    refine HL.out.mono ?_
    rintro e w5 ⟨v, rfl, hown, hb⟩
    rw [show els (fun _ => false) = [] from no_els] at hown
    obtain ⟨ao, cp, rfl⟩ := ownsRow_none hown
    have HO5 := Lib.hid (HO4.out.went hb)
    clear hown hb HL HR HQ HM HO4
    have HX := Lib.hid (next_any w5 (.nil w5) HO5.out.tab i (by omega))
    rw [show next (fun _ => false) i = -1 from no_next i] at HX
    go_wp2_with fail
    refine HX.out.mono ?_
    rintro e w' ⟨rfl, rfl⟩
    go_wp2_with fail
    refine (twin_nil w5).mono ?_
    rintro e w' ⟨rfl, rfl⟩
    have HS := Lib.hid (same_any w5 (.nil w5) (.at_ HO5.out.set))
    rw [show same (fun _ => false) no = true from same_self _] at HS
    go_wp2_with fail
    refine HS.out.mono ?_
    rintro e w' ⟨rfl, rfl⟩
    have HR := Lib.hid (room_any w5 (.at_ HO5.out.set))
    go_wp2_with fail
    refine HR.out.mono ?_
    rintro e w' ⟨rfl, rfl⟩
    have HA := Lib.hid (awake_any w5 HO5.out.tab)
    clear HX HS HR
    go_wp2_with fail
    refine HA.out.mono ?_
    rintro e w6 ⟨rfl, hb⟩
    have HB := Lib.hid (HO5.out.below.trans (hb.mono HO5.out.below.size))
    clear hb
    go_wp2
    go_ret
    exact ⟨rfl, HB.out⟩
  · by_cases h1 : 4096 < n
    · have he : ((c : Int) == 4096) = true := by have := HC.out; unfold cap at this; simp; omega
      go_enter Tryd.func5, Tryd.ntmps5
      go_wp2_with fail
      refine HN.out.mono ?_
      rintro e w1 ⟨p, d, rfl, hp, hd, hs, hb, hh⟩
      have HO : Hid (Own w p d c no w1) := Own.start HT.out hp hd hs hb
      clear hp hd hs hb hh HN
      go_wp2_with fail
      refine (put_nil i w1).mono ?_
      rintro e w' ⟨rfl, rfl⟩
      go_wp2_with fail
      refine (drop_nil i (by omega) w1).mono ?_
      rintro e w' ⟨rfl, m, rfl⟩
      have HO2 := Lib.hid (HO.out.drewN m)
      clear HO
      generalize w1.drewN m = w2 at *
      have HH := Lib.hid (has_any w2 (.nil w2) i (by omega))
      rw [show has (fun _ => false) i = false from no_has i] at HH
      go_wp2_with fail
      refine HH.out.mono ?_
      rintro e w' ⟨rfl, m2, rfl⟩
      have HO3 := Lib.hid (HO2.out.drewN m2)
      clear HO2 HH
      generalize w2.drewN m2 = w3 at *
      go_wp2_with fail
      refine (or_nil w3).mono ?_
      rintro e w' ⟨rfl, rfl⟩
      have HM := Lib.hid (meet_any w3 (.nil w3) (.at_ HO3.out.set))
      rw [show meet (fun _ => false) no = false from no_meet _] at HM
      go_wp2_with fail
      refine HM.out.mono ?_
      rintro e w' ⟨rfl, rfl⟩
      have HR := Lib.hid (or_any w3 HO3.out.set (.nil w3))
      rw [show gains no c (fun _ => false) = false from gains_none _ _, show orr no c (fun _ => false) = no from orr_none _ _] at HR
      go_wp2_with fail
      refine HR.out.mono ?_
      rintro e w4 ⟨rfl, hs, hk⟩
      have HO4 := Lib.hid (HO3.out.wrote hs hk)
      clear hs hk HO3 HM HR
      have HM := Lib.hid (meet_any w4 (.at_ HO4.out.set) (.nil w4))
      rw [show meet no (fun _ => false) = false from no_meet _] at HM
      go_wp2_with fail
      refine HM.out.mono ?_
      rintro e w' ⟨rfl, rfl⟩
      have HQ := Lib.hid (count_any w4 (.nil w4))
      rw [show els (fun _ => false) = [] from no_els] at HQ
      go_wp2_with fail
      refine HQ.out.mono ?_
      rintro e w' ⟨rfl, rfl⟩
      have HR := Lib.hid (room_any w4 (.nil w4))
      go_wp2_with fail
      refine HR.out.mono ?_
      rintro e w' ⟨rfl, rfl⟩
      have HL := Lib.hid (list_any w4 (.nil w4) HO4.out.tab)
      go_wp2_with fail
      refine HL.out.mono ?_
      rintro e w5 ⟨v, rfl, hown, hb⟩
      rw [show els (fun _ => false) = [] from no_els] at hown
      obtain ⟨ao, cp, rfl⟩ := ownsRow_none hown
      have HO5 := Lib.hid (HO4.out.went hb)
      clear hown hb HL HR HQ HM HO4
      have HX := Lib.hid (next_any w5 (.nil w5) HO5.out.tab i (by omega))
      rw [show next (fun _ => false) i = -1 from no_next i] at HX
      go_wp2_with fail
      refine HX.out.mono ?_
      rintro e w' ⟨rfl, rfl⟩
      go_wp2_with fail
      refine (twin_nil w5).mono ?_
      rintro e w' ⟨rfl, rfl⟩
      have HS := Lib.hid (same_any w5 (.nil w5) (.at_ HO5.out.set))
      rw [show same (fun _ => false) no = true from same_self _] at HS
      go_wp2_with fail
      refine HS.out.mono ?_
      rintro e w' ⟨rfl, rfl⟩
      have HR := Lib.hid (room_any w5 (.at_ HO5.out.set))
      go_wp2_with fail
      refine HR.out.mono ?_
      rintro e w' ⟨rfl, rfl⟩
      have HA := Lib.hid (awake_any w5 HO5.out.tab)
      clear HX HS HR
      go_wp2_with fail
      refine HA.out.mono ?_
      rintro e w6 ⟨rfl, hb⟩
      have HB := Lib.hid (HO5.out.below.trans (hb.mono HO5.out.below.size))
      clear hb
      go_wp2
      go_ret
      exact ⟨rfl, HB.out⟩
    · have he : ((c : Int) == n) = true := by have := HC.out; unfold cap at this; simp; omega
      go_enter Tryd.func5, Tryd.ntmps5
      go_wp2_with fail
      refine HN.out.mono ?_
      rintro e w1 ⟨p, d, rfl, hp, hd, hs, hb, hh⟩
      have HO : Hid (Own w p d c no w1) := Own.start HT.out hp hd hs hb
      clear hp hd hs hb hh HN
      go_wp2_with fail
      refine (put_nil i w1).mono ?_
      rintro e w' ⟨rfl, rfl⟩
      go_wp2_with fail
      refine (drop_nil i (by omega) w1).mono ?_
      rintro e w' ⟨rfl, m, rfl⟩
      have HO2 := Lib.hid (HO.out.drewN m)
      clear HO
      generalize w1.drewN m = w2 at *
      have HH := Lib.hid (has_any w2 (.nil w2) i (by omega))
      rw [show has (fun _ => false) i = false from no_has i] at HH
      go_wp2_with fail
      refine HH.out.mono ?_
      rintro e w' ⟨rfl, m2, rfl⟩
      have HO3 := Lib.hid (HO2.out.drewN m2)
      clear HO2 HH
      generalize w2.drewN m2 = w3 at *
      go_wp2_with fail
      refine (or_nil w3).mono ?_
      rintro e w' ⟨rfl, rfl⟩
      have HM := Lib.hid (meet_any w3 (.nil w3) (.at_ HO3.out.set))
      rw [show meet (fun _ => false) no = false from no_meet _] at HM
      go_wp2_with fail
      refine HM.out.mono ?_
      rintro e w' ⟨rfl, rfl⟩
      have HR := Lib.hid (or_any w3 HO3.out.set (.nil w3))
      rw [show gains no c (fun _ => false) = false from gains_none _ _, show orr no c (fun _ => false) = no from orr_none _ _] at HR
      go_wp2_with fail
      refine HR.out.mono ?_
      rintro e w4 ⟨rfl, hs, hk⟩
      have HO4 := Lib.hid (HO3.out.wrote hs hk)
      clear hs hk HO3 HM HR
      have HM := Lib.hid (meet_any w4 (.at_ HO4.out.set) (.nil w4))
      rw [show meet no (fun _ => false) = false from no_meet _] at HM
      go_wp2_with fail
      refine HM.out.mono ?_
      rintro e w' ⟨rfl, rfl⟩
      have HQ := Lib.hid (count_any w4 (.nil w4))
      rw [show els (fun _ => false) = [] from no_els] at HQ
      go_wp2_with fail
      refine HQ.out.mono ?_
      rintro e w' ⟨rfl, rfl⟩
      have HR := Lib.hid (room_any w4 (.nil w4))
      go_wp2_with fail
      refine HR.out.mono ?_
      rintro e w' ⟨rfl, rfl⟩
      have HL := Lib.hid (list_any w4 (.nil w4) HO4.out.tab)
      go_wp2_with fail
      refine HL.out.mono ?_
      rintro e w5 ⟨v, rfl, hown, hb⟩
      rw [show els (fun _ => false) = [] from no_els] at hown
      obtain ⟨ao, cp, rfl⟩ := ownsRow_none hown
      have HO5 := Lib.hid (HO4.out.went hb)
      clear hown hb HL HR HQ HM HO4
      have HX := Lib.hid (next_any w5 (.nil w5) HO5.out.tab i (by omega))
      rw [show next (fun _ => false) i = -1 from no_next i] at HX
      go_wp2_with fail
      refine HX.out.mono ?_
      rintro e w' ⟨rfl, rfl⟩
      go_wp2_with fail
      refine (twin_nil w5).mono ?_
      rintro e w' ⟨rfl, rfl⟩
      have HS := Lib.hid (same_any w5 (.nil w5) (.at_ HO5.out.set))
      rw [show same (fun _ => false) no = true from same_self _] at HS
      go_wp2_with fail
      refine HS.out.mono ?_
      rintro e w' ⟨rfl, rfl⟩
      have HR := Lib.hid (room_any w5 (.at_ HO5.out.set))
      go_wp2_with fail
      refine HR.out.mono ?_
      rintro e w' ⟨rfl, rfl⟩
      have HA := Lib.hid (awake_any w5 HO5.out.tab)
      clear HX HS HR
      go_wp2_with fail
      refine HA.out.mono ?_
      rintro e w6 ⟨rfl, hb⟩
      have HB := Lib.hid (HO5.out.below.trans (hb.mono HO5.out.below.size))
      clear hb
      go_wp2
      go_ret
      exact ⟨rfl, HB.out⟩

end Go.Proofs.YtmocndhcahongaaDoor.Bt
