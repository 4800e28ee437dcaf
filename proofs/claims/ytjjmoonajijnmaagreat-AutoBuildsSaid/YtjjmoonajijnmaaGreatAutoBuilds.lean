/-
  The walk of the statement on building. No condition.
-/
import Derived.Test.YtjjmoonajijnmaaGreatMAutoR
import Derived.Test.YtjjmoonajijnmaaGreatMAutoQ
import Derived.Test.YtjjmoonajijnmaaGreatAutoAwake
import Derived.Test.YtjjmoonajijnmaaGreatMMuch
namespace Go.Proofs.YtjjmoonajijnmaaGreat.Au
open Go.RowKit Go.Maps
open Go.Proofs.YtjjmoonajijnmaaGreat.Gr (Gram Sh gv GAt Box Bx checkN top boxed drawn much_any cell_new cell_old cell_later bool_of)
open Go.Proofs.YtjjmoonajijnmaaGreat.Im
set_option linter.unusedVariables false

theorem small_of {G : Gram} {X : List Sta} {e : Int} (h : Built G e X) : Small X := by
  by_cases he : e = 0
  · subst he
    exact (ent_of h).small
  · rw [none_of h he]
    exact ⟨Nat.zero_le _, fun s hs => (List.not_mem_nil hs).elim, fun s hs => (List.not_mem_nil hs).elim⟩

set_option maxRecDepth 100000 in
set_option maxHeartbeats 4000000 in
theorem builds_law (h : Sh) (G : Gram) (w : World) (k : GAt h G w) :
    Calls Tryz.prog 3 #[gv h G] w (Gr.Is (.bool true) w) := by
  have X0 := Lib.hid (Bx.start h G w 25)
  have MU := Lib.hid (fun w1 (b : Below w.heap.size w w1) => much_any h G w1 (k.went b))
  have BU := Lib.hid (fun w1 (b : Below w.heap.size w w1) => build_any h G w1 (k.went b) (fun hv => Nat.le_trans (top_small hv) (by omega)))
  have RB := Lib.hid (fun w1 (b : Below w.heap.size w w1) => rbuild_any h G w1 (k.went b))
  have AW := Lib.hid awake_any
  clear k
  obtain ⟨x0, x1, x2, x3⟩ := X0.out.box
  unfold gv at *
  go_enter Tryz.func3, Tryz.ntmps3
  go_wp2_with fail
  refine (MU.out _ X0.out.below).mono ?_
  rintro e w1 ⟨n, rfl, hn, hb⟩
  have X1 := Lib.hid (X0.out.went hb)
  clear hb MU hn x0 x1 x2 x3 X0
  obtain ⟨x0, x1, x2, x3⟩ := X1.out.box
  by_cases hn9 : 60 < n
  · go_wp2_with (go_at_call 5; refine (AW.out _).mono ?_; rintro e w2 ⟨rfl, hb⟩; have HB := Lib.hid (Gr.step X1.out.below hb); clear hb)
    go_ret
    exact ⟨rfl, HB.out⟩
  go_wp2_with (first
    | (go_at_call 6; refine (BU.out _ X1.out.below).mono ?_; rintro e w2 ⟨X, er, a, c, rfl, hbu, hX, hc, hb⟩; have X2 := Lib.hid (X1.out.went hb); have BX := Lib.hid hbu; have SX := Lib.hid hX; clear x0 x1 x2 x3 hb hbu hX hc; obtain ⟨x0, x1, x2, x3⟩ := X2.out.box)
    | (go_at_call 7; refine (RB.out _ X2.out.below).mono ?_; rintro e w3 ⟨Y, fr, a', c', rfl, hbu, hY, hc, hb⟩; obtain ⟨rfl, rfl⟩ := hbu.uniq BX.out; have X3 := Lib.hid (X2.out.went hb); have SA := Lib.hid (rsame13_any Y a a' c c' w3 (SX.out.went hb) hY (small_of hbu)); clear x0 x1 x2 x3 hb hbu hY hc)
    | (go_at_call 8; refine SA.out.mono ?_; rintro e w4 ⟨rfl, hb⟩; have HB4 := Lib.hid (Gr.step X3.out.below hb); clear hb)
    | (go_at_call 5; refine (AW.out _).mono ?_; rintro e w5 ⟨rfl, hb⟩; have HB5 := Lib.hid (Gr.step HB4.out hb); clear hb))
  go_ret
  exact ⟨rfl, HB5.out⟩

end Go.Proofs.YtjjmoonajijnmaaGreat.Au
