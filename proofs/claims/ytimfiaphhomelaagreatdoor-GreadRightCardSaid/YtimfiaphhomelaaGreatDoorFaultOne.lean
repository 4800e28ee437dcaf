/-
  fault.Code and fault.At on no error and on an error made by New: the number and the place. Conditions: errors' own variable for the type error holds what the program's text lays there; the number is not 0.
-/
import Derived.Test.YtimfiaphhomelaaGreatDoorProg
import Derived.WalkKit
import Derived.LaidEql
import Derived.Stop.Asserts
import Derived.Stop.CallBack
import Derived.Stop.IfaceNil
import Derived.RowKitTokens
import Derived.Deep.RegionHeld3
import Derived.Lib.Hide
import Derived.Below
import Derived.WalkSpells
import Derived.BigCall
import Derived.Deep.LoopGhost
import Derived.Defers
import Derived.Recover
namespace Go.Proofs.YtimfiaphhomelaaGreatDoor.Fa
open Go.RowKit Go.Extern.Stop Go.Stop Go.Extern Go.Lib

theorem assign_fault_fault (w : World) : (ReflectliteType.relation "AssignableTo" ReflectliteType.assignableTo #[.agg #[.pointer (some ⟨2, 67, none⟩)], .iface 157 (.agg #[.pointer (some ⟨2, 67, none⟩)])]).run Tryz.prog w = .ok (.bool true) w := by kernel_rfl

theorem typeOf_fault (v : Value) (w : World) : (ReflectliteType.typeOf #[.iface 67 v]).run Tryz.prog w = .ok (.iface 157 (.agg #[.pointer (some ⟨2, 67, none⟩)])) w := by kernel_rfl

theorem method_AssignableTo (h : Value) (w : World) : (Go.method 314 157 (.agg #[h]) "AssignableTo").run Tryz.prog w = .ok (152, .agg #[h]) w := by kernel_rfl

theorem valueOf_fault (e at_ : Int) (w : World) : (ReflectliteValue.unpack (.iface 67 (.agg #[.int .i64 e, .int .i64 at_]))).run Tryz.prog w
    = .ok (.agg #[.pointer (some ⟨2, 67, none⟩), .pointer (some ⟨w.heap.size, 0, none⟩), .int .u64 153]) (w.alloc (.cells #[.int .i64 e, .int .i64 at_] 67)) := by kernel_rfl

theorem valueOf_pfault (x : Addr) (w : World) : (ReflectliteValue.unpack (.iface 104 (.pointer (some x)))).run Tryz.prog w
    = .ok (.agg #[.pointer (some ⟨2, 104, none⟩), .pointer (some ⟨w.heap.size, 0, none⟩), .int .u64 150]) (w.alloc (.cells #[.pointer (some x)] 104)) := by kernel_rfl

theorem type_pfault (a : Addr) (w : World) : (ReflectliteValue.methodAny (ReflectliteValue.valueError "reflectlite.Value.Type" 0) (fun t _ _ _ => ReflectliteType.toType t) #[.agg #[.pointer (some ⟨2, 104, none⟩), .pointer (some a), .int .u64 150]]).run Tryz.prog w
    = .ok (.iface 157 (.agg #[.pointer (some ⟨2, 104, none⟩)])) w := by kernel_rfl

theorem method_Kind (h : Value) (w : World) : (Go.method 314 157 (.agg #[h]) "Kind").run Tryz.prog w = .ok (142, h) w := by kernel_rfl

theorem method_Elem (h : Value) (w : World) : (Go.method 314 157 (.agg #[h]) "Elem").run Tryz.prog w = .ok (154, .agg #[h]) w := by kernel_rfl

theorem method_Implements (h : Value) (w : World) : (Go.method 314 157 (.agg #[h]) "Implements").run Tryz.prog w = .ok (155, .agg #[h]) w := by kernel_rfl

theorem kind_pfault (w : World) : ((ReflectliteType.abiMethod fun t => (fun a : Nat => Value.int IntKind.u8 (a : Int)) <$> Rtype.kind t) #[.pointer (some ⟨2, 104, none⟩)]).run Tryz.prog w = .ok (.int .u8 22) w := by kernel_rfl

theorem kind_fault (w : World) : ((ReflectliteType.abiMethod fun t => (fun a : Nat => Value.int IntKind.u8 (a : Int)) <$> Rtype.kind t) #[.pointer (some ⟨2, 67, none⟩)]).run Tryz.prog w = .ok (.int .u8 25) w := by kernel_rfl

theorem elem_pfault (w : World) : (ReflectliteType.method ReflectliteType.elem #[.agg #[.pointer (some ⟨2, 104, none⟩)]]).run Tryz.prog w = .ok (.iface 157 (.agg #[.pointer (some ⟨2, 67, none⟩)])) w := by kernel_rfl

theorem implements_fault (w : World) : (ReflectliteType.relation "Implements" ReflectliteType.implements_ #[.agg #[.pointer (some ⟨2, 67, none⟩)], .iface 157 (.agg #[.pointer (some ⟨2, 28, none⟩)])]).run Tryz.prog w = .ok (.bool true) w := by kernel_rfl

theorem parts_pfault (a : Addr) (w : World) : (ReflectliteValue.parts (.agg #[.pointer (some ⟨2, 104, none⟩), .pointer (some a), .int .u64 150])).run Tryz.prog w = .ok (some (104, a, 150)) w := by kernel_rfl

theorem parts_faulta (a : Addr) (w : World) : (ReflectliteValue.parts (.agg #[.pointer (some ⟨2, 67, none⟩), .pointer (some a), .int .u64 409])).run Tryz.prog w = .ok (some (67, a, 409)) w := by kernel_rfl

theorem parts_fault (a : Addr) (w : World) : (ReflectliteValue.parts (.agg #[.pointer (some ⟨2, 67, none⟩), .pointer (some a), .int .u64 153])).run Tryz.prog w = .ok (some (67, a, 153)) w := by kernel_rfl

theorem elemOf_pfault (w : World) : (Rtype.elem? 104).run Tryz.prog w = .ok (some 67) w := by kernel_rfl

theorem mk_fault (x : Addr) (w : World) : (ReflectliteValue.mk 67 x ReflectliteValue.flagAddr).run Tryz.prog w = .ok (.agg #[.pointer (some ⟨2, 67, none⟩), .pointer (some x), .int .u64 409]) w := by kernel_rfl

theorem direct_fault (w : World) : (Rtype.directlyAssignable 67 67).run Tryz.prog w = .ok true w := by kernel_rfl

theorem lt_of_cell {w : World} {p o : Nat} {v : Value} (h : w.cell? ⟨p, o, none⟩ = some v) : p < w.heap.size := World.block_lt_of_cell? _ _ h

theorem step {w w1 w2 : World} (h : Below w.heap.size w w1) (k : Below w1.heap.size w1 w2) : Below w.heap.size w w2 := h.trans (k.mono h.size)

theorem method_one (z : Sem Value) (f : TypeId → Addr → Nat → Nat → Sem Value) (v : Value) :
    ReflectliteValue.method z f #[v] = (do match ← ReflectliteValue.parts v with | none => z | some (t, a, fl) => f t a fl (fl % 32)) := rfl

theorem isNil_pfault (a p : Addr) (W : World) (ha : W.cell? a = some (.pointer (some p))) :
    (ReflectliteValue.method (ReflectliteValue.valueError "reflectlite.Value.IsNil" 0) ReflectliteValue.isNil #[.agg #[.pointer (some ⟨2, 104, none⟩), .pointer (some a), .int .u64 150]]).run Tryz.prog W = .ok (.bool false) W := by
  rw [method_one]
  simp only [Sem.run_bind, parts_pfault, Result.andThen]
  simp [ReflectliteValue.isNil, loadVar, isAgg, underlying, Tryz.underlying104, ha, Result.andThen]

theorem elemV_pfault (a p : Addr) (W : World) (ha : W.cell? a = some (.pointer (some p))) :
    (ReflectliteValue.method (ReflectliteValue.valueError "reflectlite.Value.Elem" 0) ReflectliteValue.elem #[.agg #[.pointer (some ⟨2, 104, none⟩), .pointer (some a), .int .u64 150]]).run Tryz.prog W
      = .ok (.agg #[.pointer (some ⟨2, 67, none⟩), .pointer (some p), .int .u64 409]) W := by
  rw [method_one]
  simp only [Sem.run_bind, parts_pfault, Result.andThen]
  simp [ReflectliteValue.elem, loadVar, isAgg, underlying, Tryz.underlying104, ha, Result.andThen, elemOf_pfault, mk_fault]

theorem set_fault (t b : Nat) (e at_ : Int) (o0 o1 : Value) (W : World) (hb0 : W.cell? ⟨b, 0, none⟩ = some (.int .i64 e)) (hb1 : W.cell? ⟨b, 1, none⟩ = some (.int .i64 at_)) (ht0 : W.cell? ⟨t, 0, none⟩ = some o0) (ht1 : W.cell? ⟨t, 1, none⟩ = some o1) (hf0 : W.frozen? ⟨t, 0, none⟩ = false) (hf1 : W.frozen? ⟨t, 1, none⟩ = false) :
    (ReflectliteValue.set #[.agg #[.pointer (some ⟨2, 67, none⟩), .pointer (some ⟨t, 0, none⟩), .int .u64 409], .agg #[.pointer (some ⟨2, 67, none⟩), .pointer (some ⟨b, 0, none⟩), .int .u64 153]]).run Tryz.prog W
      = .ok (.tuple #[]) ((W.setCell ⟨t, 0, none⟩ (.int .i64 e)).setCell ⟨t, 1, none⟩ (.int .i64 at_)) := by
  change Sem.run _ (ReflectliteValue.parts (.agg #[.pointer (some ⟨2, 67, none⟩), .pointer (some ⟨t, 0, none⟩), .int .u64 409]) >>= fun a => ReflectliteValue.parts (.agg #[.pointer (some ⟨2, 67, none⟩), .pointer (some ⟨b, 0, none⟩), .int .u64 153]) >>= fun b => _) _ = _
  simp only [Sem.run_bind, parts_faulta, parts_fault, Result.andThen]
  have hl : (loadCells ⟨b, 0, none⟩ 2).run Tryz.prog W = .ok #[.int .i64 e, .int .i64 at_] W := by
    refine run_loadCells_list (P := Tryz.prog) W ⟨b, 0, none⟩ [.int .i64 e, .int .i64 at_] fun j v hv => ?_
    match j with
    | 0 => simp at hv; subst hv; simpa [Addr.add] using hb0
    | 1 => simp at hv; subst hv; simpa [Addr.add] using hb1
    | j + 2 => simp at hv
  have s0 : (store ⟨t, 0, none⟩ (.int .i64 e)).run Tryz.prog W = .ok () (W.setCell ⟨t, 0, none⟩ (.int .i64 e)) := by
    rw [run_store Tryz.prog W _ _ _ (by rfl)]
    simp [ht0, hf0]
  have s1 : (store ⟨t, 1, none⟩ (.int .i64 at_)).run Tryz.prog (W.setCell ⟨t, 0, none⟩ (.int .i64 e)) = .ok () ((W.setCell ⟨t, 0, none⟩ (.int .i64 e)).setCell ⟨t, 1, none⟩ (.int .i64 at_)) := by
    rw [run_store Tryz.prog _ _ _ _ (by rfl)]
    have h1 : (W.setCell ⟨t, 0, none⟩ (.int .i64 e)).cell? ⟨t, 1, none⟩ = some o1 := by rw [World.cell?_setCell_other _ _ _ _ (by simp)]; exact ht1
    simp [h1, hf1]
  simp [ReflectliteValue.flagAddr, loadVar, isAgg, underlying, Tryz.underlying67, hl, Result.andThen, direct_fault, storeVar, Value.cells, storeCells, Addr.add, s0, s1]

/-- What errors.As has done where an error made by New lies within: the variable at t holds it. -/
def HitF (t : Nat) (e at_ : Int) (w : World) (x : Ending) (w' : World) : Prop := x = .returned (.bool true) ∧ ∃ w1 o, Below w.heap.size w w1 ∧ w' = ((w1.setCell ⟨t, 0, none⟩ (.int .i64 e)).setCell ⟨t, 1, none⟩ (.int .i64 at_)).alloc o

/-- Nothing found. -/
def Miss (w : World) (x : Ending) (w' : World) : Prop := x = .returned (.bool false) ∧ Below w.heap.size w w'

/-- errors' variable for the type error. -/
def ErrType (w : World) : Prop := w.cell? ⟨0, 0, none⟩ = some (.iface 157 (.agg #[.pointer (some ⟨2, 28, none⟩)]))

theorem ErrType.keep {w w' : World} (h : ErrType w) (hb : Below w.heap.size w w') : ErrType w' := by
  unfold ErrType at h ⊢
  rw [hb.cell (p := ⟨0, 0, none⟩) (lt_of_cell h)]; exact h

theorem HitF.back {t : Nat} {e at_ : Int} {w w1 w2 : World} {x : Ending} (hb : Below w.heap.size w w1) (h : HitF t e at_ w1 x w2) : HitF t e at_ w x w2 := by
  obtain ⟨h1, w3, o, h2, h3⟩ := h
  exact ⟨h1, w3, o, step hb h2, h3⟩

theorem idle_inner (w : World) : CallsD Tryz.prog 52 #[] .returning w fun e u' w' => e = .returned (.tuple #[]) ∧ u' = .returning ∧ w' = w := by
  refine callsD_of_wpS Tryz.func52 rfl fun c₀ cs hu => ?_
  apply wpS_region
  simp [wpOpsS, go_sem, recoverD, hu, Tryz.ntmps52, bodyPostS, results, Tryz.results52]
  cases c₀
  simp_all

/-- What lies at t behind a hit: the error's number and place; no block before t is written. -/
theorem HitF.at {t : Nat} {e at_ : Int} {w w' : World} {x : Ending} {o0 o1 : Value} (h : HitF t e at_ w x w') (h0 : w.cell? ⟨t, 0, none⟩ = some o0) (h1 : w.cell? ⟨t, 1, none⟩ = some o1) :
    w'.cell? ⟨t, 0, none⟩ = some (.int .i64 e) ∧ w'.cell? ⟨t, 1, none⟩ = some (.int .i64 at_) ∧ (∀ o, w'.frozen? ⟨t, o, none⟩ = w.frozen? ⟨t, o, none⟩) ∧ Below t w w' := by
  obtain ⟨_, w1, o, hb, rfl⟩ := h
  have ht := lt_of_cell h0
  have k0 : w1.cell? ⟨t, 0, none⟩ = some o0 := by rw [hb.cell (p := ⟨t, 0, none⟩) ht]; exact h0
  have k1 : w1.cell? ⟨t, 1, none⟩ = some o1 := by rw [hb.cell (p := ⟨t, 1, none⟩) ht]; exact h1
  have hs : t < w1.heap.size := lt_of_cell k0
  have s1 : (w1.setCell ⟨t, 0, none⟩ (.int .i64 e)).cell? ⟨t, 1, none⟩ = some o1 := by rw [World.cell?_setCell_other _ _ _ _ (by simp)]; exact k1
  have b1 : Below t w ((w1.setCell ⟨t, 0, none⟩ (.int .i64 e)).setCell ⟨t, 1, none⟩ (.int .i64 at_)) := ((hb.mono (Nat.le_of_lt ht)).setCell (Nat.le_refl _) _).setCell (Nat.le_refl _) _
  have hs2 : t < ((w1.setCell ⟨t, 0, none⟩ (.int .i64 e)).setCell ⟨t, 1, none⟩ (.int .i64 at_)).heap.size := lt_of_cell (World.cell?_setCell_same _ _ _ s1)
  refine ⟨?_, ?_, ?_, b1.alloc (Nat.le_of_lt hs2) _⟩
  · rw [World.cell?_alloc_lt _ _ ⟨t, 0, none⟩ hs2, World.cell?_setCell_other _ _ _ _ (by simp)]
    exact World.cell?_setCell_same _ _ _ k0
  · rw [World.cell?_alloc_lt _ _ ⟨t, 1, none⟩ hs2]
    exact World.cell?_setCell_same _ _ _ s1
  · intro i
    rw [World.frozen?_alloc_old _ _ ⟨t, i, none⟩ (Nat.ne_of_lt hs2), World.frozen?_setCell, World.frozen?_setCell]
    exact hb.frozen (p := ⟨t, i, none⟩) ht

set_option maxHeartbeats 4000000 in
set_option maxRecDepth 100000 in
theorem asl_fault_hit (e at_ : Int) (t a : Nat) (o0 o1 : Value) (w : World) (ha : w.cell? ⟨a, 0, none⟩ = some (.pointer (some ⟨t, 0, none⟩)))
    (ht0 : w.cell? ⟨t, 0, none⟩ = some o0) (ht1 : w.cell? ⟨t, 1, none⟩ = some o1) (hf0 : w.frozen? ⟨t, 0, none⟩ = false) (hf1 : w.frozen? ⟨t, 1, none⟩ = false) :
    Calls Tryz.prog 88 #[.iface 67 (.agg #[.int .i64 e, .int .i64 at_]), .iface 104 (.pointer (some ⟨t, 0, none⟩)), .agg #[.pointer (some ⟨2, 104, none⟩), .pointer (some ⟨a, 0, none⟩), .int .u64 150], .iface 157 (.agg #[.pointer (some ⟨2, 67, none⟩)])] w (HitF t e at_ w) := by
  have a_fault := assign_fault_fault
  have t_fault := typeOf_fault
  have mA := method_AssignableTo
  have h25 := @run_callFunc_extern Tryz.prog 108 _ ReflectliteType.typeOf Tryz.func108 (by kernel_rfl) (by kernel_rfl) (by kernel_rfl) (by kernel_rfl)
  have h65 := @run_callFunc_extern Tryz.prog 152 _ (ReflectliteType.relation "AssignableTo" ReflectliteType.assignableTo) Tryz.func152 (by kernel_rfl) (by kernel_rfl) (by kernel_rfl) (by kernel_rfl)
  have h28 := @run_callFunc_extern Tryz.prog 85 _ (fun args => ReflectliteValue.unpack (args.getD 0 (.tuple #[]))) Tryz.func85 (by kernel_rfl) (by kernel_rfl) (by kernel_rfl) (by kernel_rfl)
  have h32 := @run_callFunc_extern Tryz.prog 109 _ (ReflectliteValue.method (ReflectliteValue.valueError "reflectlite.Value.Elem" 0) ReflectliteValue.elem) Tryz.func109 (by kernel_rfl) (by kernel_rfl) (by kernel_rfl) (by kernel_rfl)
  have h33 := @run_callFunc_extern Tryz.prog 110 _ ReflectliteValue.set Tryz.func110 (by kernel_rfl) (by kernel_rfl) (by kernel_rfl) (by kernel_rfl)
  have hal := lt_of_cell ha
  have htl := lt_of_cell ht0
  go_enter Tryz.func88, Tryz.ntmps88
  go_wp2
  have k0 : (w.alloc (.cells #[.pointer (some ⟨2, 104, none⟩), .pointer (some ⟨a, 0, none⟩), .int .u64 150] 134)).cell? ⟨a, 0, none⟩ = some (.pointer (some ⟨t, 0, none⟩)) := by rw [World.cell?_alloc_lt _ _ ⟨a, 0, none⟩ hal]; exact ha
  have kt0 : (w.alloc (.cells #[.pointer (some ⟨2, 104, none⟩), .pointer (some ⟨a, 0, none⟩), .int .u64 150] 134)).cell? ⟨t, 0, none⟩ = some o0 := by rw [World.cell?_alloc_lt _ _ ⟨t, 0, none⟩ htl]; exact ht0
  have kt1 : (w.alloc (.cells #[.pointer (some ⟨2, 104, none⟩), .pointer (some ⟨a, 0, none⟩), .int .u64 150] 134)).cell? ⟨t, 1, none⟩ = some o1 := by rw [World.cell?_alloc_lt _ _ ⟨t, 1, none⟩ htl]; exact ht1
  have kf0 : (w.alloc (.cells #[.pointer (some ⟨2, 104, none⟩), .pointer (some ⟨a, 0, none⟩), .int .u64 150] 134)).frozen? ⟨t, 0, none⟩ = false := by rw [World.frozen?_alloc_old _ _ ⟨t, 0, none⟩ (Nat.ne_of_lt htl)]; exact hf0
  have kf1 : (w.alloc (.cells #[.pointer (some ⟨2, 104, none⟩), .pointer (some ⟨a, 0, none⟩), .int .u64 150] 134)).frozen? ⟨t, 1, none⟩ = false := by rw [World.frozen?_alloc_old _ _ ⟨t, 1, none⟩ (Nat.ne_of_lt htl)]; exact hf1
  have b0 : Below w.heap.size w (w.alloc (.cells #[.pointer (some ⟨2, 104, none⟩), .pointer (some ⟨a, 0, none⟩), .int .u64 150] 134)) := (Below.refl _ _).alloc (Nat.le_refl _) _
  have q0 : (w.alloc (.cells #[.pointer (some ⟨2, 104, none⟩), .pointer (some ⟨a, 0, none⟩), .int .u64 150] 134)).cell? ⟨w.heap.size, 0, none⟩ = some (.pointer (some ⟨2, 104, none⟩)) := by simp
  have q1 : (w.alloc (.cells #[.pointer (some ⟨2, 104, none⟩), .pointer (some ⟨a, 0, none⟩), .int .u64 150] 134)).cell? ⟨w.heap.size, 1, none⟩ = some (.pointer (some ⟨a, 0, none⟩)) := by simp
  have q2 : (w.alloc (.cells #[.pointer (some ⟨2, 104, none⟩), .pointer (some ⟨a, 0, none⟩), .int .u64 150] 134)).cell? ⟨w.heap.size, 2, none⟩ = some (.int .u64 150) := by simp
  generalize w.alloc (.cells #[.pointer (some ⟨2, 104, none⟩), .pointer (some ⟨a, 0, none⟩), .int .u64 150] 134) = wr at *
  have HB := Lib.hid b0
  clear ha ht0 ht1 hf0 hf1 b0 hal htl
  have vf := valueOf_fault
  have ev := elemV_pfault ⟨a, 0, none⟩ ⟨t, 0, none⟩ wr k0
  have tl := lt_of_cell kt0
  have st := set_fault t wr.heap.size e at_ o0 o1 (wr.alloc (.cells #[.int .i64 e, .int .i64 at_] 67)) (by simp) (by simp)
    (by rw [World.cell?_alloc_lt _ _ ⟨t, 0, none⟩ tl]; exact kt0) (by rw [World.cell?_alloc_lt _ _ ⟨t, 1, none⟩ tl]; exact kt1)
    (by rw [World.frozen?_alloc_old _ _ ⟨t, 0, none⟩ (Nat.ne_of_lt tl)]; exact kf0) (by rw [World.frozen?_alloc_old _ _ ⟨t, 1, none⟩ (Nat.ne_of_lt tl)]; exact kf1)
  go_loopg [0] 0 (fun k v w' => v = .iface 67 (.agg #[.int .i64 e, .int .i64 at_]) ∧ w' = wr)
  case atStart => exact ⟨rfl, rfl⟩
  case round =>
    obtain ⟨rfl, rfl⟩ := hrel
    go_wp2
    go_ret
    exact ⟨rfl, _, _, HB.out, rfl⟩

set_option maxHeartbeats 4000000 in
set_option maxRecDepth 100000 in
theorem as_fault_hit (e at_ : Int) (o0 o1 : Value) (t : Nat) (w : World) (hg : ErrType w) (ht0 : w.cell? ⟨t, 0, none⟩ = some o0) (ht1 : w.cell? ⟨t, 1, none⟩ = some o1) (hf0 : w.frozen? ⟨t, 0, none⟩ = false) (hf1 : w.frozen? ⟨t, 1, none⟩ = false) :
    Calls Tryz.prog 53 #[.iface 67 (.agg #[.int .i64 e, .int .i64 at_]), .iface 104 (.pointer (some ⟨t, 0, none⟩))] w (HitF t e at_ w) := by
  have h28 := @run_callFunc_extern Tryz.prog 85 _ (fun args => ReflectliteValue.unpack (args.getD 0 (.tuple #[]))) Tryz.func85 (by kernel_rfl) (by kernel_rfl) (by kernel_rfl) (by kernel_rfl)
  have h29 := @run_callFunc_extern Tryz.prog 86 _ (ReflectliteValue.methodAny (ReflectliteValue.valueError "reflectlite.Value.Type" 0) (fun t _ _ _ => ReflectliteType.toType t)) Tryz.func86 (by kernel_rfl) (by kernel_rfl) (by kernel_rfl) (by kernel_rfl)
  have h30 := @run_callFunc_extern Tryz.prog 87 _ (ReflectliteValue.method (ReflectliteValue.valueError "reflectlite.Value.IsNil" 0) ReflectliteValue.isNil) Tryz.func87 (by kernel_rfl) (by kernel_rfl) (by kernel_rfl) (by kernel_rfl)
  have h48 := @run_callFunc_extern Tryz.prog 142 _ (ReflectliteType.abiMethod fun t => do pure (.int .u8 (← Rtype.kind t))) Tryz.func142 (by kernel_rfl) (by kernel_rfl) (by kernel_rfl) (by kernel_rfl)
  have h67 := @run_callFunc_extern Tryz.prog 154 _ (ReflectliteType.method ReflectliteType.elem) Tryz.func154 (by kernel_rfl) (by kernel_rfl) (by kernel_rfl) (by kernel_rfl)
  have h68 := @run_callFunc_extern Tryz.prog 155 _ (ReflectliteType.relation "Implements" ReflectliteType.implements_) Tryz.func155 (by kernel_rfl) (by kernel_rfl) (by kernel_rfl) (by kernel_rfl)
  have f6 := valueOf_pfault
  have f7 := type_pfault
  have mK := method_Kind
  have mE := method_Elem
  have mI := method_Implements
  have kq := kind_pfault
  have kd := kind_fault
  have eq := elem_pfault
  have im := implements_fault
  have hb2 : Below w.heap.size w ((w.alloc (.cells #[.pointer (some ⟨t, 0, none⟩)] 104)).alloc (.cells #[.pointer (some ⟨2, 104, none⟩), .pointer (some ⟨w.heap.size, 0, none⟩), .int .u64 150] 134)) := ((Below.refl _ _).alloc (Nat.le_refl _) _).alloc (by simp) _
  have n8 := isNil_pfault ⟨w.heap.size, 0, none⟩ ⟨t, 0, none⟩ ((w.alloc (.cells #[.pointer (some ⟨t, 0, none⟩)] 104)).alloc (.cells #[.pointer (some ⟨2, 104, none⟩), .pointer (some ⟨w.heap.size, 0, none⟩), .int .u64 150] 134)) (by rw [World.cell?_alloc_lt _ _ ⟨w.heap.size, 0, none⟩ (by simp)]; simp)
  have hg2 : ((w.alloc (.cells #[.pointer (some ⟨t, 0, none⟩)] 104)).alloc (.cells #[.pointer (some ⟨2, 104, none⟩), .pointer (some ⟨w.heap.size, 0, none⟩), .int .u64 150] 134)).cell? ⟨0, 0, none⟩ = some (.iface 157 (.agg #[.pointer (some ⟨2, 28, none⟩)])) := hg.keep hb2
  have c2 : ((w.alloc (.cells #[.pointer (some ⟨t, 0, none⟩)] 104)).alloc (.cells #[.pointer (some ⟨2, 104, none⟩), .pointer (some ⟨w.heap.size, 0, none⟩), .int .u64 150] 134)).cell? ⟨w.heap.size, 0, none⟩ = some (.pointer (some ⟨t, 0, none⟩)) := by rw [World.cell?_alloc_lt _ _ ⟨w.heap.size, 0, none⟩ (by simp)]; simp
  have tl := lt_of_cell ht0
  have T0 := Lib.hid (show ((w.alloc (.cells #[.pointer (some ⟨t, 0, none⟩)] 104)).alloc (.cells #[.pointer (some ⟨2, 104, none⟩), .pointer (some ⟨w.heap.size, 0, none⟩), .int .u64 150] 134)).cell? ⟨t, 0, none⟩ = some o0 by rw [World.cell?_alloc_lt _ _ ⟨t, 0, none⟩ (by simp; omega), World.cell?_alloc_lt _ _ ⟨t, 0, none⟩ tl]; exact ht0)
  have T1 := Lib.hid (show ((w.alloc (.cells #[.pointer (some ⟨t, 0, none⟩)] 104)).alloc (.cells #[.pointer (some ⟨2, 104, none⟩), .pointer (some ⟨w.heap.size, 0, none⟩), .int .u64 150] 134)).cell? ⟨t, 1, none⟩ = some o1 by rw [World.cell?_alloc_lt _ _ ⟨t, 1, none⟩ (by simp; omega), World.cell?_alloc_lt _ _ ⟨t, 1, none⟩ tl]; exact ht1)
  have F0 := Lib.hid (show ((w.alloc (.cells #[.pointer (some ⟨t, 0, none⟩)] 104)).alloc (.cells #[.pointer (some ⟨2, 104, none⟩), .pointer (some ⟨w.heap.size, 0, none⟩), .int .u64 150] 134)).frozen? ⟨t, 0, none⟩ = false by rw [World.frozen?_alloc_old _ _ ⟨t, 0, none⟩ (by simp; omega), World.frozen?_alloc_old _ _ ⟨t, 0, none⟩ (Nat.ne_of_lt tl)]; exact hf0)
  have F1 := Lib.hid (show ((w.alloc (.cells #[.pointer (some ⟨t, 0, none⟩)] 104)).alloc (.cells #[.pointer (some ⟨2, 104, none⟩), .pointer (some ⟨w.heap.size, 0, none⟩), .int .u64 150] 134)).frozen? ⟨t, 1, none⟩ = false by rw [World.frozen?_alloc_old _ _ ⟨t, 1, none⟩ (by simp; omega), World.frozen?_alloc_old _ _ ⟨t, 1, none⟩ (Nat.ne_of_lt tl)]; exact hf1)
  clear tl ht0 ht1 hf0 hf1
  have HB := Lib.hid hb2
  have C2 := Lib.hid c2
  clear hb2 c2 hg
  go_enter Tryz.func53, Tryz.ntmps53
  go_wp2_with (go_at_call 88; refine (asl_fault_hit e at_ t w.heap.size o0 o1 _ C2.out T0.out T1.out F0.out F1.out).mono ?_; rintro e w' hpost; replace hpost := Lib.hid (HitF.back HB.out hpost); obtain ⟨b, rfl⟩ : ∃ b, e = .returned (.bool b) := ⟨_, hpost.out.1⟩)
  go_ret
  exact hpost.out

set_option maxHeartbeats 2000000 in
set_option maxRecDepth 100000 in
theorem inner_hit (e at_ : Int) (w : World) (hg : ErrType w) (hne : (e != 0) = true) :
    Calls Tryz.prog 29 #[.iface 67 (.agg #[.int .i64 e, .int .i64 at_])] w fun x w' => x = .returned (.tuple #[.agg #[.int .i64 e, .int .i64 at_], .bool true]) ∧ Below w.heap.size w w' := by
  have hmf : ∀ (fn : Fn) (first cap : Array Value) (w : World), (Instr.makeFunc fn first cap).run Tryz.prog w = .ok (.func fn first cap) w := fun _ _ _ _ => rfl
  have hb1 : Below w.heap.size w (w.alloc (.cells #[.int .i64 0, .int .i64 0] 67)) := (Below.refl _ _).alloc (Nat.le_refl _) _
  have T0 := Lib.hid (show (w.alloc (.cells #[.int .i64 0, .int .i64 0] 67)).cell? ⟨w.heap.size, 0, none⟩ = some (.int .i64 0) by simp)
  have T1 := Lib.hid (show (w.alloc (.cells #[.int .i64 0, .int .i64 0] 67)).cell? ⟨w.heap.size, 1, none⟩ = some (.int .i64 0) by simp)
  have F0 := Lib.hid (show ∀ o, (w.alloc (.cells #[.int .i64 0, .int .i64 0] 67)).frozen? ⟨w.heap.size, o, none⟩ = false from fun o => by simp)
  have HG := Lib.hid (hg.keep hb1)
  have HB := Lib.hid hb1
  clear hg hb1
  go_enter_defers Tryz.func29, Tryz.ntmps29
  go_wp2_with (go_at_call 53; go_loud (refine (as_fault_hit e at_ (.int .i64 0) (.int .i64 0) w.heap.size _ HG.out T0.out T1.out (F0.out 0) (F0.out 1)).mono ?_; rintro x w1 hx; have hy := hx.at T0.out T1.out; have hz := hx.1; clear hx; subst hz; obtain ⟨c0, c1, cf, cb⟩ := hy; have f0 := (cf 0).trans (F0.out 0); have f1 := (cf 1).trans (F0.out 1); have CB := Lib.hid cb; clear cb cf))
  refine leaves_cons (f := 52) (args := #[]) (by simp) (by simp [go_sem]) ?_
  refine (idle_inner _).mono ?_
  rintro x u' w'' ⟨rfl, rfl, rfl⟩
  have r0 := World.cell?_setCell_same w1 ⟨w.heap.size, 0, none⟩ (.int .i64 e) c0
  have r1 := World.cell?_setCell_same (w1.setCell ⟨w.heap.size, 0, none⟩ (.int .i64 e)) ⟨w.heap.size, 1, none⟩ (.int .i64 at_) (u := .int .i64 at_) (by rw [World.cell?_setCell_other _ _ _ _ (by simp)]; exact c1)
  have hb := ((HB.out.trans CB.out).setCell (p := ⟨w.heap.size, 0, none⟩) (Nat.le_refl _) (.int .i64 e)).setCell (p := ⟨w.heap.size, 1, none⟩) (Nat.le_refl _) (.int .i64 at_)
  simp [Leaves, settle, results, Tryz.results29, go_sem, r0, r1, hb]

/-- A value comes back; nothing that was there is written. -/
def Gives (v : Value) (w : World) (x : Ending) (w' : World) : Prop := x = .returned v ∧ Below w.heap.size w w'

set_option maxHeartbeats 2000000 in
set_option maxRecDepth 100000 in
theorem code_hit (e at_ : Int) (w : World) (hg : ErrType w) (hne : (e != 0) = true) :
    Calls Tryz.prog 12 #[.iface 67 (.agg #[.int .i64 e, .int .i64 at_])] w (Gives (.int .i64 e) w) := by
  have HA := Lib.hid (inner_hit e at_ w hg hne)
  clear hg hne
  go_enter Tryz.func12, Tryz.ntmps12
  go_wp2_with (go_at_call 29; go_loud (refine HA.out.mono ?_; rintro x w1 ⟨rfl, hb⟩; have HB := Lib.hid hb; clear hb))
  go_ret
  exact ⟨rfl, HB.out.alloc HB.out.size _⟩

set_option maxHeartbeats 2000000 in
set_option maxRecDepth 100000 in
theorem at_hit (e at_ : Int) (w : World) (hg : ErrType w) (hne : (e != 0) = true) :
    Calls Tryz.prog 13 #[.iface 67 (.agg #[.int .i64 e, .int .i64 at_])] w (Gives (.int .i64 at_) w) := by
  have HA := Lib.hid (inner_hit e at_ w hg hne)
  clear hg hne
  go_enter Tryz.func13, Tryz.ntmps13
  go_wp2_with (go_at_call 29; go_loud (refine HA.out.mono ?_; rintro x w1 ⟨rfl, hb⟩; have HB := Lib.hid hb; clear hb))
  go_ret
  exact ⟨rfl, HB.out.alloc HB.out.size _⟩

theorem code_nil (w : World) : Calls Tryz.prog 12 #[.nilIface] w (Gives (.int .i64 0) w) := by
  go_enter Tryz.func12, Tryz.ntmps12
  go_wp2
  go_ret
  exact ⟨rfl, Below.refl _ _⟩

end Go.Proofs.YtimfiaphhomelaaGreatDoor.Fa

