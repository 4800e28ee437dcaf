/-
  The entries of internal/reflectlite that read or write memory, at the two targets of package fault: the Value of a pointer that is not nil; its Elem; Set of a fault and of a pointer to a named. Conditions: the cells that are read are there, the cells that are written are not frozen.
-/
import Derived.Test.YtoolmokcbdkhoaaFmtFaultWrap
namespace Go.Proofs.YtoolmokcbdkhoaaFmt.Fa
open Go.RowKit Go.Extern.Stop Go.Stop Go.Extern Go.Kit Go.Lib

theorem method_one (z : Sem Value) (f : TypeId → Addr → Nat → Nat → Sem Value) (v : Value) :
    ReflectliteValue.method z f #[v] = (do match ← ReflectliteValue.parts v with | none => z | some (t, a, fl) => f t a fl (fl % 32)) := rfl


theorem isNil_pfault (a p : Addr) (W : World) (ha : W.cell? a = some (.pointer (some p))) :
    (ReflectliteValue.method (ReflectliteValue.valueError "reflectlite.Value.IsNil" 0) ReflectliteValue.isNil #[.agg #[.pointer (some ⟨1, 67, none⟩), .pointer (some a), .int .u64 150]]).run Tryf.prog W = .ok (.bool false) W := by
  rw [method_one]
  simp only [Sem.run_bind, parts_pfault, Result.andThen]
  simp [ReflectliteValue.isNil, loadVar, isAgg, underlying, Tryf.underlying67, ha, Result.andThen]

theorem elemV_pfault (a p : Addr) (W : World) (ha : W.cell? a = some (.pointer (some p))) :
    (ReflectliteValue.method (ReflectliteValue.valueError "reflectlite.Value.Elem" 0) ReflectliteValue.elem #[.agg #[.pointer (some ⟨1, 67, none⟩), .pointer (some a), .int .u64 150]]).run Tryf.prog W
      = .ok (.agg #[.pointer (some ⟨1, 47, none⟩), .pointer (some p), .int .u64 409]) W := by
  rw [method_one]
  simp only [Sem.run_bind, parts_pfault, Result.andThen]
  simp [ReflectliteValue.elem, loadVar, isAgg, underlying, Tryf.underlying67, ha, Result.andThen, elemOf_pfault, mk_fault]


theorem isNil_ppnamed (a p : Addr) (W : World) (ha : W.cell? a = some (.pointer (some p))) :
    (ReflectliteValue.method (ReflectliteValue.valueError "reflectlite.Value.IsNil" 0) ReflectliteValue.isNil #[.agg #[.pointer (some ⟨1, 52, none⟩), .pointer (some a), .int .u64 150]]).run Tryf.prog W = .ok (.bool false) W := by
  rw [method_one]
  simp only [Sem.run_bind, parts_ppnamed, Result.andThen]
  simp [ReflectliteValue.isNil, loadVar, isAgg, underlying, Tryf.underlying52, ha, Result.andThen]

theorem elemV_ppnamed (a p : Addr) (W : World) (ha : W.cell? a = some (.pointer (some p))) :
    (ReflectliteValue.method (ReflectliteValue.valueError "reflectlite.Value.Elem" 0) ReflectliteValue.elem #[.agg #[.pointer (some ⟨1, 52, none⟩), .pointer (some a), .int .u64 150]]).run Tryf.prog W
      = .ok (.agg #[.pointer (some ⟨1, 50, none⟩), .pointer (some p), .int .u64 406]) W := by
  rw [method_one]
  simp only [Sem.run_bind, parts_ppnamed, Result.andThen]
  simp [ReflectliteValue.elem, loadVar, isAgg, underlying, Tryf.underlying52, ha, Result.andThen, elemOf_ppnamed, mk_pnamed]


theorem set_pnamed (ta b e : Addr) (old : Value) (W : World) (hb : W.cell? b = some (.pointer (some e))) (ht : W.cell? ta = some old) (hf : W.frozen? ta = false) :
    (ReflectliteValue.set #[.agg #[.pointer (some ⟨1, 50, none⟩), .pointer (some ta), .int .u64 406], .agg #[.pointer (some ⟨1, 50, none⟩), .pointer (some b), .int .u64 150]]).run Tryf.prog W
      = .ok (.tuple #[]) (W.setCell ta (.pointer (some e))) := by
  change Sem.run _ (ReflectliteValue.parts (.agg #[.pointer (some ⟨1, 50, none⟩), .pointer (some ta), .int .u64 406]) >>= fun a => ReflectliteValue.parts (.agg #[.pointer (some ⟨1, 50, none⟩), .pointer (some b), .int .u64 150]) >>= fun b => _) _ = _
  simp only [Sem.run_bind, parts_pnameda, parts_pnamed, Result.andThen]
  simp [ReflectliteValue.flagAddr, loadVar, isAgg, underlying, Tryf.underlying50, hb, Result.andThen, direct_pnamed, storeVar, Value.cells, storeCells, Addr.add]
  rw [run_store Tryf.prog W ta _ _ (by rfl)]
  simp [ht, hf]

theorem set_fault (t b : Nat) (e at_ : Int) (o0 o1 : Value) (W : World) (hb0 : W.cell? ⟨b, 0, none⟩ = some (.int .i64 e)) (hb1 : W.cell? ⟨b, 1, none⟩ = some (.int .i64 at_)) (ht0 : W.cell? ⟨t, 0, none⟩ = some o0) (ht1 : W.cell? ⟨t, 1, none⟩ = some o1) (hf0 : W.frozen? ⟨t, 0, none⟩ = false) (hf1 : W.frozen? ⟨t, 1, none⟩ = false) :
    (ReflectliteValue.set #[.agg #[.pointer (some ⟨1, 47, none⟩), .pointer (some ⟨t, 0, none⟩), .int .u64 409], .agg #[.pointer (some ⟨1, 47, none⟩), .pointer (some ⟨b, 0, none⟩), .int .u64 153]]).run Tryf.prog W
      = .ok (.tuple #[]) ((W.setCell ⟨t, 0, none⟩ (.int .i64 e)).setCell ⟨t, 1, none⟩ (.int .i64 at_)) := by
  change Sem.run _ (ReflectliteValue.parts (.agg #[.pointer (some ⟨1, 47, none⟩), .pointer (some ⟨t, 0, none⟩), .int .u64 409]) >>= fun a => ReflectliteValue.parts (.agg #[.pointer (some ⟨1, 47, none⟩), .pointer (some ⟨b, 0, none⟩), .int .u64 153]) >>= fun b => _) _ = _
  simp only [Sem.run_bind, parts_faulta, parts_fault, Result.andThen]
  have hl : (loadCells ⟨b, 0, none⟩ 2).run Tryf.prog W = .ok #[.int .i64 e, .int .i64 at_] W := by
    refine run_loadCells_list (P := Tryf.prog) W ⟨b, 0, none⟩ [.int .i64 e, .int .i64 at_] fun j v hv => ?_
    match j with
    | 0 => simp at hv; subst hv; simpa [Addr.add] using hb0
    | 1 => simp at hv; subst hv; simpa [Addr.add] using hb1
    | j + 2 => simp at hv
  have s0 : (store ⟨t, 0, none⟩ (.int .i64 e)).run Tryf.prog W = .ok () (W.setCell ⟨t, 0, none⟩ (.int .i64 e)) := by
    rw [run_store Tryf.prog W _ _ _ (by rfl)]
    simp [ht0, hf0]
  have s1 : (store ⟨t, 1, none⟩ (.int .i64 at_)).run Tryf.prog (W.setCell ⟨t, 0, none⟩ (.int .i64 e)) = .ok () ((W.setCell ⟨t, 0, none⟩ (.int .i64 e)).setCell ⟨t, 1, none⟩ (.int .i64 at_)) := by
    rw [run_store Tryf.prog _ _ _ _ (by rfl)]
    have h1 : (W.setCell ⟨t, 0, none⟩ (.int .i64 e)).cell? ⟨t, 1, none⟩ = some o1 := by rw [World.cell?_setCell_other _ _ _ _ (by simp)]; exact ht1
    simp [h1, hf1]
  simp [ReflectliteValue.flagAddr, loadVar, isAgg, underlying, Tryf.underlying47, hl, Result.andThen, direct_fault, storeVar, Value.cells, storeCells, Addr.add, s0, s1]

end Go.Proofs.YtoolmokcbdkhoaaFmt.Fa
