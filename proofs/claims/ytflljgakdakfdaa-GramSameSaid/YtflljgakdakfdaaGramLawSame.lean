/-
  The walk of the statement on two grammars.
-/
import Derived.Test.YtflljgakdakfdaaGramAwake
import Derived.Test.YtflljgakdakfdaaGramMuch
namespace Go.Proofs.Ytflljgakdakfdaa.Gr
open Go.RowKit Go.Maps
set_option linter.unusedVariables false

/-- Eight cells that stay, and that only new blocks are made. -/
def Eight (w : World) (p1 p2 p3 p4 p5 p6 p7 p8 : Addr) (v1 v2 v3 v4 v5 v6 v7 v8 : Value) : Prop :=
  ∀ w', Below w.heap.size w w' → w'.cell? p1 = some v1 ∧ w'.cell? p2 = some v2 ∧ w'.cell? p3 = some v3 ∧ w'.cell? p4 = some v4 ∧ w'.cell? p5 = some v5 ∧ w'.cell? p6 = some v6 ∧ w'.cell? p7 = some v7 ∧ w'.cell? p8 = some v8 ∧ Below w.heap.size w w'
theorem eight {w : World} {p1 p2 p3 p4 p5 p6 p7 p8 : Addr} {v1 v2 v3 v4 v5 v6 v7 v8 : Value} (h1 : w.cell? p1 = some v1) (h2 : w.cell? p2 = some v2) (h3 : w.cell? p3 = some v3) (h4 : w.cell? p4 = some v4) (h5 : w.cell? p5 = some v5) (h6 : w.cell? p6 = some v6) (h7 : w.cell? p7 = some v7) (h8 : w.cell? p8 = some v8) :
    Eight w p1 p2 p3 p4 p5 p6 p7 p8 v1 v2 v3 v4 v5 v6 v7 v8 :=
  fun _ hb => ⟨cell_later hb h1, cell_later hb h2, cell_later hb h3, cell_later hb h4, cell_later hb h5, cell_later hb h6, cell_later hb h7, cell_later hb h8, hb⟩

set_option maxHeartbeats 8000000 in
set_option maxRecDepth 100000 in
theorem same_law (h l : Sh) (G H : Gram) (w : World) (k : GAt h G w) (m : GAt l H w) :
    Calls Try.prog 4 #[gv h G, gv l H] w (Is (.bool true) w) := by
  have X := Lib.hid (B2.start h l G H w 25)
  have MA := Lib.hid (fun w1 (b : Below w.heap.size w w1) => much_any h G w1 (k.went b))
  have MB := Lib.hid (fun w1 (b : Below w.heap.size w w1) => much_any l H w1 (m.went b))
  have SAB := Lib.hid (fun w1 (b : Below w.heap.size w w1) => same_any h l G H w1 (k.went b) (m.went b))
  have RAB := Lib.hid (fun w1 (b : Below w.heap.size w w1) => rsame_any h l G H w1 (k.went b) (m.went b))
  have SAA := Lib.hid (show ∀ w1, Below w.heap.size w w1 → Calls Try.prog 28 #[gv h G, gv h G] w1 (Is (.bool true) w1) from fun w1 b => by have := same_any h h G G w1 (k.went b) (k.went b); rw [sameG_self] at this; exact this)
  have AW := Lib.hid awake_any
  clear k m
  unfold gv
  generalize sameG G H = sb at *
  go_enter Try.func4, Try.ntmps4
  go_wp2_with fail
  refine (MA.out _ X.out.below).mono ?_
  rintro e w1 ⟨n, rfl, hn, hb⟩
  have X := Lib.hid (X.out.went hb)
  obtain ⟨x0, x1, x2, x3⟩ := X.out.b1
  obtain ⟨y0, y1, y2, y3⟩ := X.out.b2
  clear hb hn MA
  by_cases hn : 600 < n
  · go_wp2_with (go_at_call 7; refine (AW.out _).mono ?_; rintro e w2 ⟨rfl, hb⟩; have HB := Lib.hid (step X.out.below hb); clear hb)
    go_ret
    exact ⟨rfl, HB.out⟩
  · go_wp2_with fail
    refine (MB.out _ X.out.below).mono ?_
    rintro e w2 ⟨n2, rfl, hn2, hb⟩
    have X := Lib.hid (X.out.went hb)
    clear x0 x1 x2 x3 y0 y1 y2 y3
    obtain ⟨x0, x1, x2, x3⟩ := X.out.b1
    obtain ⟨y0, y1, y2, y3⟩ := X.out.b2
    clear hb hn2 MB
    by_cases hn2 : 600 < n2
    · go_wp2_with (go_at_call 7; refine (AW.out _).mono ?_; rintro e w3 ⟨rfl, hb⟩; have HB := Lib.hid (step X.out.below hb); clear hb)
      go_ret
      exact ⟨rfl, HB.out⟩
    · have HQ := Lib.hid (eight x0 x1 x2 x3 y0 y1 y2 y3)
      have hbd := drawn w2
      go_wp2
      clear x0 x1 x2 x3 y0 y1 y2 y3
      go_region_held3 (fun w' => w'.cell? ⟨w.heap.size, 0, none⟩ = some (.slice h.a1 G.terms.length h.c1) ∧ w'.cell? ⟨w.heap.size, 1, none⟩ = some (.slice h.a2 G.nons.length h.c2) ∧ w'.cell? ⟨w.heap.size, 2, none⟩ = some (.slice h.a3 G.rules.length h.c3) ∧ w'.cell? ⟨w.heap.size, 3, none⟩ = some (.int .i64 G.start) ∧
          w'.cell? ⟨w.heap.size + 1, 0, none⟩ = some (.slice l.a1 H.terms.length l.c1) ∧ w'.cell? ⟨w.heap.size + 1, 1, none⟩ = some (.slice l.a2 H.nons.length l.c2) ∧ w'.cell? ⟨w.heap.size + 1, 2, none⟩ = some (.slice l.a3 H.rules.length l.c3) ∧ w'.cell? ⟨w.heap.size + 1, 3, none⟩ = some (.int .i64 H.start) ∧ Below w2.heap.size w2 w')
        (exact HQ.out _ (by assumption))
        (first
          | (go_at_call 28; ((with_reducible refine (SAB.out _ (step X.out.below hbd)).mono ?_)); rintro e wa ⟨rfl, hb⟩; have kA : Below w2.heap.size w2 wa := step hbd hb; clear hb)
          | (go_at_call 29; refine (RAB.out _ (step X.out.below kA)).mono ?_; rintro e wb ⟨rfl, hb⟩; have kB : Below w2.heap.size w2 wb := step kA hb; clear hb)
          | (go_at_call 28; ((with_reducible refine (SAA.out _ (step X.out.below kB)).mono ?_)); rintro e wc ⟨rfl, hb⟩; have kC : Below w2.heap.size w2 wc := step kB hb; clear hb)
          | (go_at_call 7; refine (AW.out _).mono ?_; rintro e wd ⟨rfl, hb⟩; have kD : Below w2.heap.size w2 wd := step kC hb; clear hb)
          | fail)
      go_wp2
      go_ret
      exact ⟨rfl, step X.out.below kD⟩

end Go.Proofs.Ytflljgakdakfdaa.Gr
