/-
  Package least: Of. No condition.
-/
import Derived.Test.YtpfokebbpbigdaaLeastPass
import Derived.Test.YtpfokebbpbigdaaGramMuch
import Derived.Deep.LoopGhost
import Derived.Laws.EntriesVeiled
namespace Go.Proofs.Ytpfokebbpbigdaa.Le
open Go.RowKit Go.Maps
open Go.Proofs.Ytpfokebbpbigdaa.Gr
open Go.Proofs.Ytpfokebbpbigdaa.Rw (Bk IntsV row_shape)
set_option linter.unusedVariables false

/-- The words of a grammar come back; nothing that was there is written. -/
def OfEnd (G : Gram) (w : World) (e : Ending) (w' : World) : Prop := ∃ v, e = .returned v ∧ VAt (nilB G) v (ansT G) w' ∧ Below w.heap.size w w'
/-- .. and what they are. -/
def OfEnd2 (G : Gram) (w : World) (e : Ending) (w' : World) : Prop := ∃ v, e = .returned v ∧ VAt (nilB G) v (ansT G) w' ∧ Below w.heap.size w w' ∧ (nilB G = false → OkS G 4096 (ansT G) ∧ Cls G 4096 (ansT G))

def ORel (W : World) (h : Sh) (G : Gram) (fb p q n g : Nat) (w : World) : Prop :=
  ∃ T, Bx W h G w ∧ Bk fb #[.pointer (some ⟨p, 0, none⟩), lexV] 49 w ∧ TAt p q n T w ∧ Inv G T ∧ leftA G 4096 T n + 1 ≤ g

set_option maxRecDepth 100000 in
set_option maxHeartbeats 16000000 in
theorem of_any2 (h : Sh) (G : Gram) (w : World) (k : GAt h G w) :
    Calls Try.prog 8 #[gv h G] w (OfEnd2 G w) := by
  obtain ⟨a1, c1, a2, c2, a3, c3⟩ := h
  have X := Lib.hid (Bx.start ⟨a1, c1, a2, c2, a3, c3⟩ G w 25)
  have C := Lib.hid (fun w1 (b : Below w.heap.size w w1) => check_any ⟨a1, c1, a2, c2, a3, c3⟩ G w1 (k.went b))
  obtain ⟨x0, x1, x2, x3⟩ := X.out.box
  try dsimp only at x0 x1 x2 x3
  by_cases hc : checkN G = 0
  · have SM := Lib.hid (sml_of hc)
    have LV := Lib.hid (fun w1 (b : Below w.heap.size w w1) => leaves_any ⟨a1, c1, a2, c2, a3, c3⟩ G w1 (k.went b) SM.out)
    have PA := Lib.hid (fun p q n T w1 (b : Below w.heap.size w w1) hn hq ht hv => pass_any w ⟨a1, c1, a2, c2, a3, c3⟩ G p q n T w1 k SM.out hn b hq ht hv)
    have AN := Lib.hid (show nilB G = false ∧ ansT G = leastT G from ⟨by unfold nilB; rw [decide_eq_true hc]; rfl, by unfold ansT; rw [if_pos hc]⟩)
    rw [hc] at C
    clear k hc
    unfold gv
    dsimp only
    go_enter Try.func8, Try.ntmps8
    go_wp2_with (first
      | (go_at_call 20; refine (C.out _ X.out.below).mono ?_; rintro e w1 ⟨rfl, hb⟩; have X1 := Lib.hid (X.out.went hb); clear hb x0 x1 x2 x3; obtain ⟨x0, x1, x2, x3⟩ := X1.out.box; try dsimp only at x0 x1 x2 x3)
      | (go_at_call 21; refine (LV.out _ X1.out.below).mono ?_; rintro e w2 ⟨p, q, rfl, ht, hp, hq, hb⟩; have X2 := Lib.hid (X1.out.went hb); have T2 := Lib.hid ht; have hsz := X1.out.size; have LP : w.heap.size < p := (by omega); have LQ : w.heap.size < q := (by omega); clear hb ht hp hq hsz x0 x1 x2 x3))
    have bx := boxed w2 (.cells #[.pointer (some ⟨p, 0, none⟩), lexV] 49)
    have O0 := Lib.hid (show ORel w ⟨a1, c1, a2, c2, a3, c3⟩ G w2.heap.size p q (top G + 1) (leftA G 4096 (tab0 G) (top G + 1) + 1) (w2.alloc (.cells #[.pointer (some ⟨p, 0, none⟩), lexV] 49)) from
      ⟨tab0 G, X2.out.went bx, Bk.new w2 _ _ _ rfl, T2.out.went bx, inv_tab0 G, Nat.le_refl _⟩)
    have hfq : q < w2.heap.size := T2.out.list.lt
    generalize w2.heap.size = fb at *
    clear bx C LV X1 X2 X T2
    go_loopg [] (leftA G 4096 (tab0 G) (top G + 1) + 1) (fun g wr => ORel w ⟨a1, c1, a2, c2, a3, c3⟩ G fb p q (top G + 1) g wr)
    case atStart => exact O0.out
    case round =>
      clear O0
      obtain ⟨T, hX, hF, hT, hV, hg⟩ := hrel
      have X := Lib.hid hX
      have F := Lib.hid hF
      have GG := Lib.hid hg
      have PC := Lib.hid (PA.out p q (top G + 1) T _ hX.below rfl (by omega) hT hV)
      obtain ⟨x0, x1, x2, x3⟩ := hX.box
      try dsimp only at x0 x1 x2 x3
      obtain ⟨f0, f1, ff⟩ := hF.two
      try dsimp only at PC
      clear hX hF hT hV hg
      go_wp2_with fail
      refine PC.out.mono ?_
      rintro e w5 ⟨U, b, rfl, ht, hp, hF⟩
      have X5 := Lib.hid (bx_fr X.out hF (fun i hi => by omega))
      have F5 := Lib.hid (F.out.fr hF (by omega))
      have T5 := Lib.hid ht
      clear x0 x1 x2 x3 f0 f1 ff ht hF
      cases b with
      | true =>
        have HP := Lib.hid (hp.yes rfl)
        have HI := Lib.hid hp.inv
        clear hp
        go_wp2
        go_roundg (leftA G 4096 U (top G + 1) + 1)
        case measure => have := GG.out; have := HP.out; omega
        case rel => exact ⟨U, X5.out, F5.out, T5.out, HI.out, Nat.le_refl _⟩
      | false =>
        have HI := Lib.hid (least_is hp.inv.ok (hp.no rfl))
        have OC := Lib.hid (show OkS G 4096 U ∧ Cls G 4096 U from ⟨hp.inv.ok, hp.no rfl⟩)
        obtain ⟨f0, f1, ff⟩ := F5.out.two
        clear hp
        go_wp2
        go_ret
        exact ⟨_, rfl, .inr ⟨AN.out.1, p, q, top G + 1, rfl, by rw [AN.out.2, ← HI.out]; exact T5.out⟩, X5.out.below, fun _ => by rw [AN.out.2, ← HI.out]; exact OC.out⟩
  · have AN := Lib.hid (show nilB G = true ∧ ansT G = fun _ => Ans.none from ⟨by unfold nilB; rw [decide_eq_false hc]; rfl, by unfold ansT; rw [if_neg hc]⟩)
    have hb : (checkN G != 0) = true := by simpa using hc
    clear k hc
    generalize checkN G = ck at *
    unfold gv
    dsimp only
    go_enter Try.func8, Try.ntmps8
    go_wp2_with (go_at_call 20; refine (C.out _ X.out.below).mono ?_; rintro e w1 ⟨rfl, hb⟩; have X1 := Lib.hid (X.out.went hb); clear hb)
    go_ret
    exact ⟨_, rfl, .inl ⟨AN.out.1, rfl, AN.out.2⟩, X1.out.below, fun h => by rw [AN.out.1] at h; cases h⟩

theorem of_any (h : Sh) (G : Gram) (w : World) (k : GAt h G w) :
    Calls Try.prog 8 #[gv h G] w (OfEnd G w) :=
  (of_any2 h G w k).mono fun _ _ ⟨v, h1, h2, h3, _⟩ => ⟨v, h1, h2, h3⟩

end Go.Proofs.Ytpfokebbpbigdaa.Le
