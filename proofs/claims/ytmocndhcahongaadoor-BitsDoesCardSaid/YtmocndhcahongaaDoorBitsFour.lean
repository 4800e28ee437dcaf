/-
  Two sets of package bits and the document's two plain ones, side by side in memory.
-/
import Derived.Test.YtmocndhcahongaaDoorBitsInts
import Derived.Test.YtmocndhcahongaaDoorBitsOf
namespace Go.Proofs.YtmocndhcahongaaDoor.Bt
open Go.RowKit

/-- Where the four lie: one behind the other. -/
structure Lie (W : World) (p1 d1 p2 d2 q1 e1 q2 e2 : Nat) : Prop where
  pos : 0 < W.heap.size
  a0 : W.heap.size ≤ p1 ∧ W.heap.size ≤ d1
  a1 : p1 < p2 ∧ p1 < d2 ∧ d1 < p2 ∧ d1 < d2
  a2 : p2 < q1 ∧ p2 < e1 ∧ d2 < q1 ∧ d2 < e1
  a3 : q1 < q2 ∧ q1 < e2 ∧ e1 < q2 ∧ e1 < e2

/-- Two sets, and the plain ones that stand for them. -/
structure Four (W : World) (p1 d1 p2 d2 q1 e1 q2 e2 n m : Nat) (B C X Y : Nat → Bool) (w : World) : Prop where
  lie : Lie W p1 d1 p2 d2 q1 e1 q2 e2
  s : SetAt p1 d1 n B w
  t : SetAt p2 d2 m C w
  x : RefAt q1 e1 n X w
  y : RefAt q2 e2 m Y w
  below : Below W.heap.size W w
  tab : Tab w

section
variable {W : World} {p1 d1 p2 d2 q1 e1 q2 e2 n m : Nat} {B C X Y B' : Nat → Bool} {w w' : World}

theorem Four.drewN (h : Four W p1 d1 p2 d2 q1 e1 q2 e2 n m B C X Y w) (k : Nat) : Four W p1 d1 p2 d2 q1 e1 q2 e2 n m B C X Y (w.drewN k) :=
  ⟨h.lie, h.s.drewN k, h.t.drewN k, h.x.drewN k, h.y.drewN k, h.below.trans ⟨rfl, rfl, rfl, Nat.le_refl _, fun _ _ => rfl⟩, h.tab⟩

theorem Four.went (h : Four W p1 d1 p2 d2 q1 e1 q2 e2 n m B C X Y w) (hb : Below w.heap.size w w') : Four W p1 d1 p2 d2 q1 e1 q2 e2 n m B C X Y w' :=
  ⟨h.lie, h.s.below hb h.s.inp h.s.ind, h.t.below hb h.t.inp h.t.ind, h.x.below hb h.x.inp h.x.ind, h.y.below hb h.y.inp h.y.ind, h.below.trans (hb.mono h.below.size), h.tab.below hb h.tab.pos⟩

theorem Four.putS (h : Four W p1 d1 p2 d2 q1 e1 q2 e2 n m B C X Y w) (hs : SetAt p1 d1 n B' w') (k : Keeps d1 w w') : Four W p1 d1 p2 d2 q1 e1 q2 e2 n m B' C X Y w' := by
  obtain ⟨h0, h1, h2, h3, h4⟩ := h.lie
  exact ⟨h.lie, hs, h.t.keeps k (by omega) (by omega), h.x.keeps k (by omega) (by omega), h.y.keeps k (by omega) (by omega), h.below.trans (k.below (by omega) h.below.size), k.tab h.tab (by omega)⟩

theorem Four.putT (h : Four W p1 d1 p2 d2 q1 e1 q2 e2 n m B C X Y w) (hs : SetAt p2 d2 m B' w') (k : Keeps d2 w w') : Four W p1 d1 p2 d2 q1 e1 q2 e2 n m B B' X Y w' := by
  obtain ⟨h0, h1, h2, h3, h4⟩ := h.lie
  exact ⟨h.lie, h.s.keeps k (by omega) (by omega), hs, h.x.keeps k (by omega) (by omega), h.y.keeps k (by omega) (by omega), h.below.trans (k.below (by omega) h.below.size), k.tab h.tab (by omega)⟩

theorem Four.putX (h : Four W p1 d1 p2 d2 q1 e1 q2 e2 n m B C X Y w) (hs : RefAt q1 e1 n B' w') (k : Keeps e1 w w') : Four W p1 d1 p2 d2 q1 e1 q2 e2 n m B C B' Y w' := by
  obtain ⟨h0, h1, h2, h3, h4⟩ := h.lie
  exact ⟨h.lie, h.s.keeps k (by omega) (by omega), h.t.keeps k (by omega) (by omega), hs, h.y.keeps k (by omega) (by omega), h.below.trans (k.below (by omega) h.below.size), k.tab h.tab (by omega)⟩

theorem Four.putY (h : Four W p1 d1 p2 d2 q1 e1 q2 e2 n m B C X Y w) (hs : RefAt q2 e2 m B' w') (k : Keeps e2 w w') : Four W p1 d1 p2 d2 q1 e1 q2 e2 n m B C X B' w' := by
  obtain ⟨h0, h1, h2, h3, h4⟩ := h.lie
  exact ⟨h.lie, h.s.keeps k (by omega) (by omega), h.t.keeps k (by omega) (by omega), h.x.keeps k (by omega) (by omega), hs, h.below.trans (k.below (by omega) h.below.size), k.tab h.tab (by omega)⟩

theorem Four.otherT (h : Four W p1 d1 p2 d2 q1 e1 q2 e2 n m B C X Y w) : OtherV d1 (.pointer (some ⟨p2, 0, none⟩)) m C w := by
  obtain ⟨h0, h1, h2, h3, h4⟩ := h.lie
  exact .at_ h.t (by omega) (by omega)
end

/-- A list of calls in memory: what is called, and with which number. -/
def Calls2 (ao : Option Addr) (len : Nat) (ks ns : Nat → Int) (w : World) : Prop :=
  ∀ i, i < len → ∃ b off, ao = some ⟨b, off, none⟩ ∧ w.cell? ⟨b, off + i * 2, none⟩ = some (.int .i64 (ks i)) ∧ w.cell? ⟨b, off + i * 2 + 1, none⟩ = some (.int .i64 (ns i)) ∧ ns i ≤ 9223372036854775807

/-- Behind one call. -/
def stepB (n : Nat) (B C : Nat → Bool) (k i : Int) : Nat → Bool := if k = 0 then putI B n i else if k = 1 then cutI B i else if k = 2 then orr B n C else B
def stepC (m : Nat) (C : Nat → Bool) (k i : Int) : Nat → Bool := if k = 3 then putI C m i else C

end Go.Proofs.YtmocndhcahongaaDoor.Bt
