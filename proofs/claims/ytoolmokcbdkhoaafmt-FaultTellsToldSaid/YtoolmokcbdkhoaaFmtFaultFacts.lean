/-
  Closed facts on the model's entries for package fmt's Errorf, for internal/reflectlite and for type assertions, at the types of package fault; each is an equation of the kernel's. No conditions.
-/
import Derived.Test.YtoolmokcbdkhoaaFmtProg
import Derived.WalkKit
import Derived.LaidEql
import Derived.Stop.Asserts
import Derived.Stop.CallBack
import Derived.Stop.IfaceNil
import Derived.RowKitTokens
namespace Go.Proofs.YtoolmokcbdkhoaaFmt.Fa
open Go.RowKit Go.Extern.Stop Go.Stop Go.Extern

theorem call_errorf (args : Array Value) (w : World) : (callFunc 24 args).run Tryf.prog w = (FmtCalls.errorf #[9, 58] #[26] args).run Tryf.prog w :=
  run_callFunc_next Tryf.func24 (by kernel_rfl) (by kernel_rfl) (by kernel_rfl) args w
theorem guard (name : String) (w : World) : (FmtStop.guard name).run Tryf.prog w = .ok () w := by kernel_rfl
theorem nextTurns : Extern.next FmtCalls.turnsRow = some (FmtCalls.begun #[] #[]) := by kernel_rfl
theorem nextReturned : Extern.next FmtCalls.returnedRow = some (FmtCalls.returned #[] #[]) := by kernel_rfl
theorem fmt_more : FmtStop.printed? ⟨#[109, 111, 114, 101, 58, 32, 37, 119]⟩ 1 = some [(0, 119, false)] := by kernel_rfl
theorem fmt_more_r (w : World) : (FmtDoors.printed ⟨#[109, 111, 114, 101, 58, 32, 37, 119]⟩ 1).run Tryf.prog w = .ok [(0, 119, false)] w := by kernel_rfl
theorem fmt_y : FmtStop.printed? ⟨#[121, 58, 32, 37, 119]⟩ 1 = some [(0, 119, false)] := by kernel_rfl
theorem fmt_y_r (w : World) : (FmtDoors.printed ⟨#[121, 58, 32, 37, 119]⟩ 1).run Tryf.prog w = .ok [(0, 119, false)] w := by kernel_rfl
theorem act_fault (name : String) (x : Value) (w : World) : (FmtCalls.act name true 119 false (.iface 47 x)).run Tryf.prog w = .ok (.call true) w := by kernel_rfl
theorem act_pnamed (name : String) (x : Value) (w : World) : (FmtCalls.act name true 119 false (.iface 50 x)).run Tryf.prog w = .ok (.call true) w := by kernel_rfl
theorem isError_fault (w : World) : (FmtDoors.textMethod 47 "Error").run Tryf.prog w = .ok true w := by kernel_rfl
theorem invokeError_fault (x : Value) (w : World) : (invoke (.fn (.method "Error") #[]) #[.iface 47 x]).run Tryf.prog w = .ok (.enter 52 #[x]) w := by kernel_rfl
theorem str_fault (w : World) : (typeStr 47).run Tryf.prog w = .ok "fault.fault" w := by kernel_rfl
theorem isError_pnamed (w : World) : (FmtDoors.textMethod 50 "Error").run Tryf.prog w = .ok true w := by kernel_rfl
theorem invokeError_pnamed (x : Value) (w : World) : (invoke (.fn (.method "Error") #[]) #[.iface 50 x]).run Tryf.prog w = .ok (.enter 55 #[x]) w := by kernel_rfl
theorem str_pnamed (w : World) : (typeStr 50).run Tryf.prog w = .ok "*fault.named" w := by kernel_rfl
theorem isError_pwrap (w : World) : (FmtDoors.textMethod 59 "Error").run Tryf.prog w = .ok true w := by kernel_rfl
theorem invokeError_pwrap (x : Value) (w : World) : (invoke (.fn (.method "Error") #[]) #[.iface 59 x]).run Tryf.prog w = .ok (.enter 58 #[x]) w := by kernel_rfl
theorem str_pwrap (w : World) : (typeStr 59).run Tryf.prog w = .ok "*fmt.wrapError" w := by kernel_rfl
theorem isError_pes (w : World) : (FmtDoors.textMethod 64 "Error").run Tryf.prog w = .ok true w := by kernel_rfl
theorem invokeError_pes (x : Value) (w : World) : (invoke (.fn (.method "Error") #[]) #[.iface 64 x]).run Tryf.prog w = .ok (.enter 60 #[x]) w := by kernel_rfl
theorem str_pes (w : World) : (typeStr 64).run Tryf.prog w = .ok "*errors.errorString" w := by kernel_rfl
theorem isError_errno (w : World) : (FmtDoors.textMethod 22 "Error").run Tryf.prog w = .ok true w := by kernel_rfl
theorem invokeError_errno (x : Value) (w : World) : (invoke (.fn (.method "Error") #[]) #[.iface 22 x]).run Tryf.prog w = .ok (.enter 51 #[x]) w := by kernel_rfl
theorem str_errno (w : World) : (typeStr 22).run Tryf.prog w = .ok "api.Errno" w := by kernel_rfl
theorem actPlain_pwrap (name : String) (x : Value) (w : World) : (FmtCalls.act name true 119 false (.iface 59 x)).run Tryf.prog w = .ok (.closed true) w := by kernel_rfl
theorem ptr_pwrap (w : World) : (FmtStop.ptrTo "fmt.wrapError").run Tryf.prog w = .ok 59 w := by kernel_rfl
theorem elem_pwrap (w : World) : (elemOf 59).run Tryf.prog w = .ok 112 w := by kernel_rfl
def plain_pwrap : List UInt8 := 14 :: FmtStop.pack "*fmt.wrapError".toUTF8.data.toList
theorem opPlain_pwrap (name : String) (a : Addr) (s : ByteArray) (w : World) (hc : w.cell? a = some (.string s)) :
    (FmtStop.operand name true 119 false (.iface 59 (.pointer (some a)))).run Tryf.prog w = .ok (plain_pwrap, s.data.toList) w := by
  have h1 : (typeStr 59).run Tryf.prog w = .ok "*fmt.wrapError" w := by kernel_rfl
  have d2 : ∃ r, Tryf.t59.desc = .pointer 112 ∧ r = () := ⟨(), rfl, rfl⟩
  obtain ⟨_, d2, _⟩ := d2
  have d3 : ∃ s', Tryf.t112.desc = .named "fmt.wrapError" s' := ⟨_, rfl⟩
  obtain ⟨_, d3⟩ := d3
  simp [FmtStop.operand, h1, d2, d3, run_load, hc, plain_pwrap]
theorem actPlain_pes (name : String) (x : Value) (w : World) : (FmtCalls.act name true 119 false (.iface 64 x)).run Tryf.prog w = .ok (.closed true) w := by kernel_rfl
theorem ptr_pes (w : World) : (FmtStop.ptrTo "errors.errorString").run Tryf.prog w = .ok 64 w := by kernel_rfl
theorem elem_pes (w : World) : (elemOf 64).run Tryf.prog w = .ok 66 w := by kernel_rfl
def plain_pes : List UInt8 := 14 :: FmtStop.pack "*errors.errorString".toUTF8.data.toList
theorem opPlain_pes (name : String) (a : Addr) (s : ByteArray) (w : World) (hc : w.cell? a = some (.string s)) :
    (FmtStop.operand name true 119 false (.iface 64 (.pointer (some a)))).run Tryf.prog w = .ok (plain_pes, s.data.toList) w := by
  have h1 : (typeStr 64).run Tryf.prog w = .ok "*errors.errorString" w := by kernel_rfl
  have d2 : ∃ r, Tryf.t64.desc = .pointer 66 ∧ r = () := ⟨(), rfl, rfl⟩
  obtain ⟨_, d2, _⟩ := d2
  have d3 : ∃ s', Tryf.t66.desc = .named "errors.errorString" s' := ⟨_, rfl⟩
  obtain ⟨_, d3⟩ := d3
  simp [FmtStop.operand, h1, d2, d3, run_load, hc, plain_pes]

/-! ### internal/reflectlite: a call of a method of rtype; the type of a value -/
theorem method_Kind (h : Value) (w : World) : (Go.method 227 79 (.agg #[h]) "Kind").run Tryf.prog w = .ok (48, h) w := by kernel_rfl
theorem method_Elem (h : Value) (w : World) : (Go.method 227 79 (.agg #[h]) "Elem").run Tryf.prog w = .ok (67, .agg #[h]) w := by kernel_rfl
theorem method_Implements (h : Value) (w : World) : (Go.method 227 79 (.agg #[h]) "Implements").run Tryf.prog w = .ok (68, .agg #[h]) w := by kernel_rfl
theorem method_AssignableTo (h : Value) (w : World) : (Go.method 227 79 (.agg #[h]) "AssignableTo").run Tryf.prog w = .ok (65, .agg #[h]) w := by kernel_rfl
theorem method_Comparable (h : Value) (w : World) : (Go.method 227 79 (.agg #[h]) "Comparable").run Tryf.prog w = .ok (66, .agg #[h]) w := by kernel_rfl
theorem typeOf_fault (v : Value) (w : World) : (ReflectliteType.typeOf #[.iface 47 v]).run Tryf.prog w = .ok (.iface 79 (.agg #[.pointer (some ⟨1, 47, none⟩)])) w := by kernel_rfl
theorem typeOf_pnamed (v : Value) (w : World) : (ReflectliteType.typeOf #[.iface 50 v]).run Tryf.prog w = .ok (.iface 79 (.agg #[.pointer (some ⟨1, 50, none⟩)])) w := by kernel_rfl
theorem typeOf_pwrap (v : Value) (w : World) : (ReflectliteType.typeOf #[.iface 59 v]).run Tryf.prog w = .ok (.iface 79 (.agg #[.pointer (some ⟨1, 59, none⟩)])) w := by kernel_rfl
theorem typeOf_pes (v : Value) (w : World) : (ReflectliteType.typeOf #[.iface 64 v]).run Tryf.prog w = .ok (.iface 79 (.agg #[.pointer (some ⟨1, 64, none⟩)])) w := by kernel_rfl
theorem typeOf_errno (v : Value) (w : World) : (ReflectliteType.typeOf #[.iface 22 v]).run Tryf.prog w = .ok (.iface 79 (.agg #[.pointer (some ⟨1, 22, none⟩)])) w := by kernel_rfl
theorem typeOf_pwanted (v : Value) (w : World) : (ReflectliteType.typeOf #[.iface 55 v]).run Tryf.prog w = .ok (.iface 79 (.agg #[.pointer (some ⟨1, 55, none⟩)])) w := by kernel_rfl
theorem assign_fault_fault (w : World) : (ReflectliteType.relation "AssignableTo" ReflectliteType.assignableTo #[.agg #[.pointer (some ⟨1, 47, none⟩)], .iface 79 (.agg #[.pointer (some ⟨1, 47, none⟩)])]).run Tryf.prog w = .ok (.bool true) w := by kernel_rfl
theorem assign_fault_pnamed (w : World) : (ReflectliteType.relation "AssignableTo" ReflectliteType.assignableTo #[.agg #[.pointer (some ⟨1, 50, none⟩)], .iface 79 (.agg #[.pointer (some ⟨1, 47, none⟩)])]).run Tryf.prog w = .ok (.bool false) w := by kernel_rfl
theorem assign_fault_pwrap (w : World) : (ReflectliteType.relation "AssignableTo" ReflectliteType.assignableTo #[.agg #[.pointer (some ⟨1, 59, none⟩)], .iface 79 (.agg #[.pointer (some ⟨1, 47, none⟩)])]).run Tryf.prog w = .ok (.bool false) w := by kernel_rfl
theorem assign_fault_pes (w : World) : (ReflectliteType.relation "AssignableTo" ReflectliteType.assignableTo #[.agg #[.pointer (some ⟨1, 64, none⟩)], .iface 79 (.agg #[.pointer (some ⟨1, 47, none⟩)])]).run Tryf.prog w = .ok (.bool false) w := by kernel_rfl
theorem assign_fault_errno (w : World) : (ReflectliteType.relation "AssignableTo" ReflectliteType.assignableTo #[.agg #[.pointer (some ⟨1, 22, none⟩)], .iface 79 (.agg #[.pointer (some ⟨1, 47, none⟩)])]).run Tryf.prog w = .ok (.bool false) w := by kernel_rfl
theorem implements_fault (w : World) : (ReflectliteType.relation "Implements" ReflectliteType.implements_ #[.agg #[.pointer (some ⟨1, 47, none⟩)], .iface 79 (.agg #[.pointer (some ⟨1, 26, none⟩)])]).run Tryf.prog w = .ok (.bool true) w := by kernel_rfl
theorem assign_pnamed_fault (w : World) : (ReflectliteType.relation "AssignableTo" ReflectliteType.assignableTo #[.agg #[.pointer (some ⟨1, 47, none⟩)], .iface 79 (.agg #[.pointer (some ⟨1, 50, none⟩)])]).run Tryf.prog w = .ok (.bool false) w := by kernel_rfl
theorem assign_pnamed_pnamed (w : World) : (ReflectliteType.relation "AssignableTo" ReflectliteType.assignableTo #[.agg #[.pointer (some ⟨1, 50, none⟩)], .iface 79 (.agg #[.pointer (some ⟨1, 50, none⟩)])]).run Tryf.prog w = .ok (.bool true) w := by kernel_rfl
theorem assign_pnamed_pwrap (w : World) : (ReflectliteType.relation "AssignableTo" ReflectliteType.assignableTo #[.agg #[.pointer (some ⟨1, 59, none⟩)], .iface 79 (.agg #[.pointer (some ⟨1, 50, none⟩)])]).run Tryf.prog w = .ok (.bool false) w := by kernel_rfl
theorem assign_pnamed_pes (w : World) : (ReflectliteType.relation "AssignableTo" ReflectliteType.assignableTo #[.agg #[.pointer (some ⟨1, 64, none⟩)], .iface 79 (.agg #[.pointer (some ⟨1, 50, none⟩)])]).run Tryf.prog w = .ok (.bool false) w := by kernel_rfl
theorem assign_pnamed_errno (w : World) : (ReflectliteType.relation "AssignableTo" ReflectliteType.assignableTo #[.agg #[.pointer (some ⟨1, 22, none⟩)], .iface 79 (.agg #[.pointer (some ⟨1, 50, none⟩)])]).run Tryf.prog w = .ok (.bool false) w := by kernel_rfl
theorem implements_pnamed (w : World) : (ReflectliteType.relation "Implements" ReflectliteType.implements_ #[.agg #[.pointer (some ⟨1, 50, none⟩)], .iface 79 (.agg #[.pointer (some ⟨1, 26, none⟩)])]).run Tryf.prog w = .ok (.bool true) w := by kernel_rfl
theorem comparable_pwanted (w : World) : ((Extern.ReflectliteType.method fun t => (fun a => Value.bool a.comparable) <$> typeInfo t) #[.agg #[.pointer (some ⟨1, 55, none⟩)]]).run Tryf.prog w = .ok (.bool true) w := by kernel_rfl
theorem comparable_errno (w : World) : ((Extern.ReflectliteType.method fun t => (fun a => Value.bool a.comparable) <$> typeInfo t) #[.agg #[.pointer (some ⟨1, 22, none⟩)]]).run Tryf.prog w = .ok (.bool true) w := by kernel_rfl
theorem valueOf_pfault (x : Addr) (w : World) : (ReflectliteValue.unpack (.iface 67 (.pointer (some x)))).run Tryf.prog w
    = .ok (.agg #[.pointer (some ⟨1, 67, none⟩), .pointer (some ⟨w.heap.size, 0, none⟩), .int .u64 150]) (w.alloc (.cells #[.pointer (some x)] 67)) := by kernel_rfl
theorem type_pfault (a : Addr) (w : World) : (ReflectliteValue.methodAny (ReflectliteValue.valueError "reflectlite.Value.Type" 0) (fun t _ _ _ => ReflectliteType.toType t) #[.agg #[.pointer (some ⟨1, 67, none⟩), .pointer (some a), .int .u64 150]]).run Tryf.prog w
    = .ok (.iface 79 (.agg #[.pointer (some ⟨1, 67, none⟩)])) w := by kernel_rfl
theorem kind_pfault (w : World) : ((ReflectliteType.abiMethod fun t => (fun a : Nat => Value.int IntKind.u8 (a : Int)) <$> Rtype.kind t) #[.pointer (some ⟨1, 67, none⟩)]).run Tryf.prog w = .ok (.int .u8 22) w := by kernel_rfl
theorem kind_fault (w : World) : ((ReflectliteType.abiMethod fun t => (fun a : Nat => Value.int IntKind.u8 (a : Int)) <$> Rtype.kind t) #[.pointer (some ⟨1, 47, none⟩)]).run Tryf.prog w = .ok (.int .u8 25) w := by kernel_rfl
theorem parts_pfault (a : Addr) (w : World) : (ReflectliteValue.parts (.agg #[.pointer (some ⟨1, 67, none⟩), .pointer (some a), .int .u64 150])).run Tryf.prog w = .ok (some (67, a, 150)) w := by kernel_rfl
theorem elem_pfault (w : World) : (ReflectliteType.method ReflectliteType.elem #[.agg #[.pointer (some ⟨1, 67, none⟩)]]).run Tryf.prog w = .ok (.iface 79 (.agg #[.pointer (some ⟨1, 47, none⟩)])) w := by kernel_rfl
theorem elemOf_pfault (w : World) : (Rtype.elem? 67).run Tryf.prog w = .ok (some 47) w := by kernel_rfl
theorem mk_fault (x : Addr) (w : World) : (ReflectliteValue.mk 47 x ReflectliteValue.flagAddr).run Tryf.prog w = .ok (.agg #[.pointer (some ⟨1, 47, none⟩), .pointer (some x), .int .u64 409]) w := by kernel_rfl
theorem parts_faulta (a : Addr) (w : World) : (ReflectliteValue.parts (.agg #[.pointer (some ⟨1, 47, none⟩), .pointer (some a), .int .u64 409])).run Tryf.prog w = .ok (some (47, a, 409)) w := by kernel_rfl
theorem parts_fault (a : Addr) (w : World) : (ReflectliteValue.parts (.agg #[.pointer (some ⟨1, 47, none⟩), .pointer (some a), .int .u64 153])).run Tryf.prog w = .ok (some (47, a, 153)) w := by kernel_rfl
theorem direct_fault (w : World) : (Rtype.directlyAssignable 47 47).run Tryf.prog w = .ok true w := by kernel_rfl
theorem valueOf_ppnamed (x : Addr) (w : World) : (ReflectliteValue.unpack (.iface 52 (.pointer (some x)))).run Tryf.prog w
    = .ok (.agg #[.pointer (some ⟨1, 52, none⟩), .pointer (some ⟨w.heap.size, 0, none⟩), .int .u64 150]) (w.alloc (.cells #[.pointer (some x)] 52)) := by kernel_rfl
theorem type_ppnamed (a : Addr) (w : World) : (ReflectliteValue.methodAny (ReflectliteValue.valueError "reflectlite.Value.Type" 0) (fun t _ _ _ => ReflectliteType.toType t) #[.agg #[.pointer (some ⟨1, 52, none⟩), .pointer (some a), .int .u64 150]]).run Tryf.prog w
    = .ok (.iface 79 (.agg #[.pointer (some ⟨1, 52, none⟩)])) w := by kernel_rfl
theorem kind_ppnamed (w : World) : ((ReflectliteType.abiMethod fun t => (fun a : Nat => Value.int IntKind.u8 (a : Int)) <$> Rtype.kind t) #[.pointer (some ⟨1, 52, none⟩)]).run Tryf.prog w = .ok (.int .u8 22) w := by kernel_rfl
theorem kind_pnamed (w : World) : ((ReflectliteType.abiMethod fun t => (fun a : Nat => Value.int IntKind.u8 (a : Int)) <$> Rtype.kind t) #[.pointer (some ⟨1, 50, none⟩)]).run Tryf.prog w = .ok (.int .u8 22) w := by kernel_rfl
theorem parts_ppnamed (a : Addr) (w : World) : (ReflectliteValue.parts (.agg #[.pointer (some ⟨1, 52, none⟩), .pointer (some a), .int .u64 150])).run Tryf.prog w = .ok (some (52, a, 150)) w := by kernel_rfl
theorem elem_ppnamed (w : World) : (ReflectliteType.method ReflectliteType.elem #[.agg #[.pointer (some ⟨1, 52, none⟩)]]).run Tryf.prog w = .ok (.iface 79 (.agg #[.pointer (some ⟨1, 50, none⟩)])) w := by kernel_rfl
theorem elemOf_ppnamed (w : World) : (Rtype.elem? 52).run Tryf.prog w = .ok (some 50) w := by kernel_rfl
theorem mk_pnamed (x : Addr) (w : World) : (ReflectliteValue.mk 50 x ReflectliteValue.flagAddr).run Tryf.prog w = .ok (.agg #[.pointer (some ⟨1, 50, none⟩), .pointer (some x), .int .u64 406]) w := by kernel_rfl
theorem parts_pnameda (a : Addr) (w : World) : (ReflectliteValue.parts (.agg #[.pointer (some ⟨1, 50, none⟩), .pointer (some a), .int .u64 406])).run Tryf.prog w = .ok (some (50, a, 406)) w := by kernel_rfl
theorem parts_pnamed (a : Addr) (w : World) : (ReflectliteValue.parts (.agg #[.pointer (some ⟨1, 50, none⟩), .pointer (some a), .int .u64 150])).run Tryf.prog w = .ok (some (50, a, 150)) w := by kernel_rfl
theorem direct_pnamed (w : World) : (Rtype.directlyAssignable 50 50).run Tryf.prog w = .ok true w := by kernel_rfl
theorem valueOf_pnamed (e : Addr) (w : World) : (ReflectliteValue.unpack (.iface 50 (.pointer (some e)))).run Tryf.prog w
    = .ok (.agg #[.pointer (some ⟨1, 50, none⟩), .pointer (some ⟨w.heap.size, 0, none⟩), .int .u64 150]) (w.alloc (.cells #[.pointer (some e)] 50)) := by kernel_rfl
theorem valueOf_fault (e at_ : Int) (w : World) : (ReflectliteValue.unpack (.iface 47 (.agg #[.int .i64 e, .int .i64 at_]))).run Tryf.prog w
    = .ok (.agg #[.pointer (some ⟨1, 47, none⟩), .pointer (some ⟨w.heap.size, 0, none⟩), .int .u64 153]) (w.alloc (.cells #[.int .i64 e, .int .i64 at_] 47)) := by kernel_rfl
theorem size_fault (w : World) : (sizeOf 47).run Tryf.prog w = .ok 2 w := by kernel_rfl

/-! ### what the assertions of errors.is and errors.as find -/
theorem has_fault_iIs (v : Value) (xT : TypeId) (w : World) : (Instr.typeAssert (.iface 47 v) xT 81 true).run Tryf.prog w = .ok (.tuple #[.iface 47 v, .bool true]) w := run_typeAssert_hasB Tryf.underlying81 (by kernel_rfl) v xT w
theorem has_fault_iUn (v : Value) (xT : TypeId) (w : World) : (Instr.typeAssert (.iface 47 v) xT 84 true).run Tryf.prog w = .ok (.tuple #[.iface 47 v, .bool true]) w := run_typeAssert_hasB Tryf.underlying84 (by kernel_rfl) v xT w
theorem no_fault_iUns (v : Value) (xT : TypeId) (w : World) : (Instr.typeAssert (.iface 47 v) xT 86 true).run Tryf.prog w = .ok (.tuple #[.nilIface, .bool false]) w := run_typeAssert_lacksB Tryf.underlying86 (by kernel_rfl) (by kernel_rfl) v xT w
theorem no_fault_iAs (v : Value) (xT : TypeId) (w : World) : (Instr.typeAssert (.iface 47 v) xT 91 true).run Tryf.prog w = .ok (.tuple #[.nilIface, .bool false]) w := run_typeAssert_lacksB Tryf.underlying91 (by kernel_rfl) (by kernel_rfl) v xT w
theorem no_pnamed_iIs (v : Value) (xT : TypeId) (w : World) : (Instr.typeAssert (.iface 50 v) xT 81 true).run Tryf.prog w = .ok (.tuple #[.nilIface, .bool false]) w := run_typeAssert_lacksB Tryf.underlying81 (by kernel_rfl) (by kernel_rfl) v xT w
theorem has_pnamed_iUn (v : Value) (xT : TypeId) (w : World) : (Instr.typeAssert (.iface 50 v) xT 84 true).run Tryf.prog w = .ok (.tuple #[.iface 50 v, .bool true]) w := run_typeAssert_hasB Tryf.underlying84 (by kernel_rfl) v xT w
theorem no_pnamed_iUns (v : Value) (xT : TypeId) (w : World) : (Instr.typeAssert (.iface 50 v) xT 86 true).run Tryf.prog w = .ok (.tuple #[.nilIface, .bool false]) w := run_typeAssert_lacksB Tryf.underlying86 (by kernel_rfl) (by kernel_rfl) v xT w
theorem no_pnamed_iAs (v : Value) (xT : TypeId) (w : World) : (Instr.typeAssert (.iface 50 v) xT 91 true).run Tryf.prog w = .ok (.tuple #[.nilIface, .bool false]) w := run_typeAssert_lacksB Tryf.underlying91 (by kernel_rfl) (by kernel_rfl) v xT w
theorem no_pwrap_iIs (v : Value) (xT : TypeId) (w : World) : (Instr.typeAssert (.iface 59 v) xT 81 true).run Tryf.prog w = .ok (.tuple #[.nilIface, .bool false]) w := run_typeAssert_lacksB Tryf.underlying81 (by kernel_rfl) (by kernel_rfl) v xT w
theorem has_pwrap_iUn (v : Value) (xT : TypeId) (w : World) : (Instr.typeAssert (.iface 59 v) xT 84 true).run Tryf.prog w = .ok (.tuple #[.iface 59 v, .bool true]) w := run_typeAssert_hasB Tryf.underlying84 (by kernel_rfl) v xT w
theorem no_pwrap_iUns (v : Value) (xT : TypeId) (w : World) : (Instr.typeAssert (.iface 59 v) xT 86 true).run Tryf.prog w = .ok (.tuple #[.nilIface, .bool false]) w := run_typeAssert_lacksB Tryf.underlying86 (by kernel_rfl) (by kernel_rfl) v xT w
theorem no_pwrap_iAs (v : Value) (xT : TypeId) (w : World) : (Instr.typeAssert (.iface 59 v) xT 91 true).run Tryf.prog w = .ok (.tuple #[.nilIface, .bool false]) w := run_typeAssert_lacksB Tryf.underlying91 (by kernel_rfl) (by kernel_rfl) v xT w
theorem no_pes_iIs (v : Value) (xT : TypeId) (w : World) : (Instr.typeAssert (.iface 64 v) xT 81 true).run Tryf.prog w = .ok (.tuple #[.nilIface, .bool false]) w := run_typeAssert_lacksB Tryf.underlying81 (by kernel_rfl) (by kernel_rfl) v xT w
theorem no_pes_iUn (v : Value) (xT : TypeId) (w : World) : (Instr.typeAssert (.iface 64 v) xT 84 true).run Tryf.prog w = .ok (.tuple #[.nilIface, .bool false]) w := run_typeAssert_lacksB Tryf.underlying84 (by kernel_rfl) (by kernel_rfl) v xT w
theorem no_pes_iUns (v : Value) (xT : TypeId) (w : World) : (Instr.typeAssert (.iface 64 v) xT 86 true).run Tryf.prog w = .ok (.tuple #[.nilIface, .bool false]) w := run_typeAssert_lacksB Tryf.underlying86 (by kernel_rfl) (by kernel_rfl) v xT w
theorem no_pes_iAs (v : Value) (xT : TypeId) (w : World) : (Instr.typeAssert (.iface 64 v) xT 91 true).run Tryf.prog w = .ok (.tuple #[.nilIface, .bool false]) w := run_typeAssert_lacksB Tryf.underlying91 (by kernel_rfl) (by kernel_rfl) v xT w
theorem no_errno_iIs (v : Value) (xT : TypeId) (w : World) : (Instr.typeAssert (.iface 22 v) xT 81 true).run Tryf.prog w = .ok (.tuple #[.nilIface, .bool false]) w := run_typeAssert_lacksB Tryf.underlying81 (by kernel_rfl) (by kernel_rfl) v xT w
theorem no_errno_iUn (v : Value) (xT : TypeId) (w : World) : (Instr.typeAssert (.iface 22 v) xT 84 true).run Tryf.prog w = .ok (.tuple #[.nilIface, .bool false]) w := run_typeAssert_lacksB Tryf.underlying84 (by kernel_rfl) (by kernel_rfl) v xT w
theorem no_errno_iUns (v : Value) (xT : TypeId) (w : World) : (Instr.typeAssert (.iface 22 v) xT 86 true).run Tryf.prog w = .ok (.tuple #[.nilIface, .bool false]) w := run_typeAssert_lacksB Tryf.underlying86 (by kernel_rfl) (by kernel_rfl) v xT w
theorem no_errno_iAs (v : Value) (xT : TypeId) (w : World) : (Instr.typeAssert (.iface 22 v) xT 91 true).run Tryf.prog w = .ok (.tuple #[.nilIface, .bool false]) w := run_typeAssert_lacksB Tryf.underlying91 (by kernel_rfl) (by kernel_rfl) v xT w
theorem unwrap_fault (v : Value) (w : World) : (Go.method 227 47 v "Unwrap").run Tryf.prog w = .ok (54, v) w := by kernel_rfl
theorem unwrap_pnamed (v : Value) (w : World) : (Go.method 227 50 v "Unwrap").run Tryf.prog w = .ok (56, v) w := by kernel_rfl
theorem unwrap_pwrap (v : Value) (w : World) : (Go.method 227 59 v "Unwrap").run Tryf.prog w = .ok (59, v) w := by kernel_rfl
theorem is_fault (v : Value) (w : World) : (Go.method 227 47 v "Is").run Tryf.prog w = .ok (53, v) w := by kernel_rfl
theorem error_fault (v : Value) (w : World) : (Go.method 227 47 v "Error").run Tryf.prog w = .ok (52, v) w := by kernel_rfl
theorem error_pnamed (v : Value) (w : World) : (Go.method 227 50 v "Error").run Tryf.prog w = .ok (55, v) w := by kernel_rfl
theorem error_pwrap (v : Value) (w : World) : (Go.method 227 59 v "Error").run Tryf.prog w = .ok (58, v) w := by kernel_rfl
theorem error_pes (v : Value) (w : World) : (Go.method 227 64 v "Error").run Tryf.prog w = .ok (60, v) w := by kernel_rfl
theorem error_errno (v : Value) (w : World) : (Go.method 227 22 v "Error").run Tryf.prog w = .ok (51, v) w := by kernel_rfl
theorem assert_wanted (v : Value) (w : World) : (Instr.typeAssert (.iface 55 v) 26 55 true).run Tryf.prog w = .ok (.tuple #[v, .bool true]) w := by kernel_rfl
theorem assert_errno (v : Value) (w : World) : (Instr.typeAssert (.iface 22 v) 26 55 true).run Tryf.prog w = .ok (.tuple #[.pointer Option.none, .bool false]) w := by kernel_rfl

end Go.Proofs.YtoolmokcbdkhoaaFmt.Fa
