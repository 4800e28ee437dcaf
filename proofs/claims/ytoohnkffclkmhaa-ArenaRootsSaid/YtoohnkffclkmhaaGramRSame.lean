/-
  The plain answers' Same.
-/
import Derived.Test.YtoohnkffclkmhaaGramSame
namespace Go.Proofs.Ytoohnkffclkmhaa.Gr
open Go.RowKit Go.Maps
set_option linter.unusedVariables false

/-- Behind the boxes of two grammars, made first. -/
structure B2 (W : World) (h l : Sh) (G H : Gram) (w : World) : Prop where
  below : Below W.heap.size W w
  b1 : Box W.heap.size h G w
  b2 : Box (W.heap.size + 1) l H w
theorem B2.start (h l : Sh) (G H : Gram) (w : World) (T : TypeId) :
    B2 w h l G H ((w.alloc (.cells #[.slice h.a1 G.terms.length h.c1, .slice h.a2 G.nons.length h.c2, .slice h.a3 G.rules.length h.c3, .int .i64 G.start] T)).alloc (.cells #[.slice l.a1 H.terms.length l.c1, .slice l.a2 H.nons.length l.c2, .slice l.a3 H.rules.length l.c3, .int .i64 H.start] T)) :=
  ⟨step (boxed _ _) (boxed _ _), (Box.mk' h G w T).later (boxed _ _), ⟨cell_new (by simp) rfl, cell_new (by simp) rfl, cell_new (by simp) rfl, cell_new (by simp) rfl⟩⟩
theorem B2.went {W : World} {h l : Sh} {G H : Gram} {w w' : World} (k : B2 W h l G H w) (hb : Below w.heap.size w w') : B2 W h l G H w' := ⟨step k.below hb, k.b1.later hb, k.b2.later hb⟩

/-- Six cells that stay, and that only new blocks are made. -/
def Six (w : World) (p1 p2 p3 p4 p5 p6 : Addr) (v1 v2 v3 v4 v5 v6 : Value) : Prop :=
  ∀ w', Below w.heap.size w w' → w'.cell? p1 = some v1 ∧ w'.cell? p2 = some v2 ∧ w'.cell? p3 = some v3 ∧ w'.cell? p4 = some v4 ∧ w'.cell? p5 = some v5 ∧ w'.cell? p6 = some v6 ∧ Below w.heap.size w w'
theorem six {w : World} {p1 p2 p3 p4 p5 p6 : Addr} {v1 v2 v3 v4 v5 v6 : Value} (h1 : w.cell? p1 = some v1) (h2 : w.cell? p2 = some v2) (h3 : w.cell? p3 = some v3) (h4 : w.cell? p4 = some v4) (h5 : w.cell? p5 = some v5) (h6 : w.cell? p6 = some v6) : Six w p1 p2 p3 p4 p5 p6 v1 v2 v3 v4 v5 v6 :=
  fun _ hb => ⟨cell_later hb h1, cell_later hb h2, cell_later hb h3, cell_later hb h4, cell_later hb h5, cell_later hb h6, hb⟩

end Go.Proofs.Ytoohnkffclkmhaa.Gr
