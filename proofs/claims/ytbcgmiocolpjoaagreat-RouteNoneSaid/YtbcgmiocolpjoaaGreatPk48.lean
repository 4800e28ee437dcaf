/- A part of the proof. -/
import Derived.Test.YtbcgmiocolpjoaaGreatPk43
set_option linter.unusedVariables false
namespace Go.Proofs.YtbcgmiocolpjoaaGreat
namespace Ro
open Go.ChangeShapes Go.WideShapes Go.RowKit Go.Deep Go.Joins
section
variable {H : Type} {enc : TypeId × Value -> H} {P : Program} {w : World}
theorem zOE {α : Type} {cs : Array α} (h : cs.size = 6) : ∃ c0 c1 c2 c3 c4 c5, cs = #[c0, c1, c2, c3, c4, c5] := by
 obtain ⟨l⟩ := cs
 match l, h with
 | [c0, c1, c2, c3, c4, c5], _ => exact ⟨c0, c1, c2, c3, c4, c5, rfl⟩
theorem zGi {TC : TypeId} {f0 f1 f2 f3 g0 g1 : Field} (hs : P.underlying TC = some (.struct #[f0, f1, f2, f3])) (hC : P.cellsOf TC = 6) (ho : f0.offset = 0 /\ f1.offset = 1 /\ f2.offset = 2 /\ f3.offset = 4) (hc : P.cellsOf f0.type = 1 /\ P.cellsOf f1.type = 1 /\ P.cellsOf f2.type = 2 /\ P.cellsOf f3.type = 2)
  (h2 : P.underlying f2.type = some (.struct #[g0, g1])) (h3 : P.underlying f3.type = some (.struct #[g0, g1])) (hone : Deep.oneCellFields P #[g0, g1] = true) (u0 : P.underlying f0.type = some (.int .i64)) (u1 : P.underlying f1.type = some (.int .i64)) (v0 : P.underlying g0.type = some (.int .i64)) (v1 : P.underlying g1.type = some (.int .i64))
  {r : Reach} {b0 : Nat} {v : Value} {d : DataW H} {p : List MemPlace} (hv : Value.okWide P w r b0 TC v) (h : DataW.Trod enc P w 0 (fun _ => true) true TC v d p) : ∃ x, v = cv x := by
 obtain ⟨cs, rfl, hsz⟩ := okWide_struct hs hv
 obtain ⟨c0, c1, c2, c3, c4, c5, rfl⟩ := zOE (hsz.trans hC)
 obtain ⟨fuel, hf⟩ := h
 obtain ⟨y0, y1, y2, y3, n, _, _, t0, t1, t2, t3⟩ := trod_struct4 hs hf
 rw [ho.1, hc.1] at t0
 rw [ho.2.1, hc.2.1] at t1
 rw [ho.2.2.1, hc.2.2.1] at t2
 rw [ho.2.2.2, hc.2.2.2] at t3
 simp only [Value.cells, List.drop_zero, List.drop_succ_cons, List.take_succ_cons, List.take_zero] at t0 t1 t2 t3
 obtain ⟨o0, k0⟩ := hone_of hone 0 g0 rfl
 obtain ⟨o1, k1⟩ := hone_of hone 1 g1 rfl
 obtain ⟨z0, z1, n2, _, _, s0, s1⟩ := trod_struct2 h2 t2
 obtain ⟨z2, z3, n3, _, _, s2, s3⟩ := trod_struct2 h3 t3
 rw [o0, k0] at s0 s2
 rw [o1, k1] at s1 s3
 simp only [List.drop_zero, List.drop_succ_cons, List.take_succ_cons, List.take_zero] at s0 s1 s2 s3
 obtain ⟨a0, e0, _, _⟩ := DataW.trod_int u0 t0
 obtain ⟨a1, e1, _, _⟩ := DataW.trod_int u1 t1
 obtain ⟨a2, e2, _, _⟩ := DataW.trod_int v0 s0
 obtain ⟨a3, e3, _, _⟩ := DataW.trod_int v1 s1
 obtain ⟨a4, e4, _, _⟩ := DataW.trod_int v0 s2
 obtain ⟨a5, e5, _, _⟩ := DataW.trod_int v1 s3
 simp at e0 e1 e2 e3 e4 e5
 subst e0 e1 e2 e3 e4 e5
 exact ⟨(a0, a1, a2, a3, a4, a5), rfl⟩
end
