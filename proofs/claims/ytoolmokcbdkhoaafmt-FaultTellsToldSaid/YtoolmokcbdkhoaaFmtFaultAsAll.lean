/-
  errors.As itself on a chain, at package fault's two targets, by the contracts of errors.as. Conditions: errors' own variable for the type error holds what the program's text lays there; the variable that is the target is there and may be written.
-/
import Derived.Test.YtoolmokcbdkhoaaFmtFaultAs
namespace Go.Proofs.YtoolmokcbdkhoaaFmt.Fa
open Go.RowKit Go.Extern.Stop Go.Stop Go.Extern Go.Kit Go.Lib

/-- errors' variable for the type error. -/
def ErrType (w : World) : Prop := w.cell? ⟨0, 0, none⟩ = some (.iface 79 (.agg #[.pointer (some ⟨1, 26, none⟩)]))
theorem ErrType.keep {w w' : World} (h : ErrType w) (hb : Below w.heap.size w w') : ErrType w' := by
  unfold ErrType at h ⊢
  rw [hb.cell (p := ⟨0, 0, none⟩) (lt_of_cell h)]; exact h

theorem Miss.back {w w1 w2 : World} {x : Ending} (hb : Below w.heap.size w w1) (h : Miss w1 x w2) : Miss w x w2 := ⟨h.1, step hb h.2⟩
theorem HitF.back {t : Nat} {e at_ : Int} {w w1 w2 : World} {x : Ending} (hb : Below w.heap.size w w1) (h : HitF t e at_ w1 x w2) : HitF t e at_ w x w2 := by
  obtain ⟨h1, w3, o, h2, h3⟩ := h
  exact ⟨h1, w3, o, step hb h2, h3⟩
theorem HitN.back {t : Nat} {s : ByteArray} {w w1 w2 : World} {x : Ending} (hb : Below w.heap.size w w1) (h : HitN t s w1 x w2) : HitN t s w x w2 := by
  obtain ⟨h1, w3, o, p, h2, h3, h4, h5⟩ := h
  exact ⟨h1, w3, o, p, step hb h2, h3, h4, h5⟩


set_option maxHeartbeats 4000000 in
set_option maxRecDepth 100000 in
theorem as_fault_hit (L : List Lay) (e at_ : Int) (o0 o1 : Value) (v : Value) (t : Nat) (w : World) (hg : ErrType w) (hc : Ch w L (.fault e at_) v) (ht0 : w.cell? ⟨t, 0, none⟩ = some o0) (ht1 : w.cell? ⟨t, 1, none⟩ = some o1) (hf0 : w.frozen? ⟨t, 0, none⟩ = false) (hf1 : w.frozen? ⟨t, 1, none⟩ = false) :
    Calls Tryf.prog 22 #[v, .iface 67 (.pointer (some ⟨t, 0, none⟩))] w (HitF t e at_ w) := by
  have h28 := @run_callFunc_extern Tryf.prog 28 _ (fun args => ReflectliteValue.unpack (args.getD 0 (.tuple #[]))) Tryf.func28 (by kernel_rfl) (by kernel_rfl) (by kernel_rfl) (by kernel_rfl)
  have h29 := @run_callFunc_extern Tryf.prog 29 _ (ReflectliteValue.methodAny (ReflectliteValue.valueError "reflectlite.Value.Type" 0) (fun t _ _ _ => ReflectliteType.toType t)) Tryf.func29 (by kernel_rfl) (by kernel_rfl) (by kernel_rfl) (by kernel_rfl)
  have h30 := @run_callFunc_extern Tryf.prog 30 _ (ReflectliteValue.method (ReflectliteValue.valueError "reflectlite.Value.IsNil" 0) ReflectliteValue.isNil) Tryf.func30 (by kernel_rfl) (by kernel_rfl) (by kernel_rfl) (by kernel_rfl)
  have h48 := @run_callFunc_extern Tryf.prog 48 _ (ReflectliteType.abiMethod fun t => do pure (.int .u8 (← Rtype.kind t))) Tryf.func48 (by kernel_rfl) (by kernel_rfl) (by kernel_rfl) (by kernel_rfl)
  have h67 := @run_callFunc_extern Tryf.prog 67 _ (ReflectliteType.method ReflectliteType.elem) Tryf.func67 (by kernel_rfl) (by kernel_rfl) (by kernel_rfl) (by kernel_rfl)
  have h68 := @run_callFunc_extern Tryf.prog 68 _ (ReflectliteType.relation "Implements" ReflectliteType.implements_) Tryf.func68 (by kernel_rfl) (by kernel_rfl) (by kernel_rfl) (by kernel_rfl)
  have f6 := valueOf_pfault
  have f7 := type_pfault
  have mK := method_Kind
  have mE := method_Elem
  have mI := method_Implements
  have kq := kind_pfault
  have kd := kind_fault
  have eq := elem_pfault
  have im := implements_fault
  have hb2 : Below w.heap.size w ((w.alloc (.cells #[.pointer (some ⟨t, 0, none⟩)] 67)).alloc (.cells #[.pointer (some ⟨1, 67, none⟩), .pointer (some ⟨w.heap.size, 0, none⟩), .int .u64 150] 71)) := ((Below.refl _ _).alloc (Nat.le_refl _) _).alloc (by simp) _
  have n8 := isNil_pfault ⟨w.heap.size, 0, none⟩ ⟨t, 0, none⟩ ((w.alloc (.cells #[.pointer (some ⟨t, 0, none⟩)] 67)).alloc (.cells #[.pointer (some ⟨1, 67, none⟩), .pointer (some ⟨w.heap.size, 0, none⟩), .int .u64 150] 71)) (by rw [World.cell?_alloc_lt _ _ ⟨w.heap.size, 0, none⟩ (by simp)]; simp)
  have hg2 : ((w.alloc (.cells #[.pointer (some ⟨t, 0, none⟩)] 67)).alloc (.cells #[.pointer (some ⟨1, 67, none⟩), .pointer (some ⟨w.heap.size, 0, none⟩), .int .u64 150] 71)).cell? ⟨0, 0, none⟩ = some (.iface 79 (.agg #[.pointer (some ⟨1, 26, none⟩)])) := hg.keep hb2
  have c2 : ((w.alloc (.cells #[.pointer (some ⟨t, 0, none⟩)] 67)).alloc (.cells #[.pointer (some ⟨1, 67, none⟩), .pointer (some ⟨w.heap.size, 0, none⟩), .int .u64 150] 71)).cell? ⟨w.heap.size, 0, none⟩ = some (.pointer (some ⟨t, 0, none⟩)) := by rw [World.cell?_alloc_lt _ _ ⟨w.heap.size, 0, none⟩ (by simp)]; simp
  have tl := lt_of_cell ht0
  have T0 := Lib.hid (show ((w.alloc (.cells #[.pointer (some ⟨t, 0, none⟩)] 67)).alloc (.cells #[.pointer (some ⟨1, 67, none⟩), .pointer (some ⟨w.heap.size, 0, none⟩), .int .u64 150] 71)).cell? ⟨t, 0, none⟩ = some o0 by rw [World.cell?_alloc_lt _ _ ⟨t, 0, none⟩ (by simp; omega), World.cell?_alloc_lt _ _ ⟨t, 0, none⟩ tl]; exact ht0)
  have T1 := Lib.hid (show ((w.alloc (.cells #[.pointer (some ⟨t, 0, none⟩)] 67)).alloc (.cells #[.pointer (some ⟨1, 67, none⟩), .pointer (some ⟨w.heap.size, 0, none⟩), .int .u64 150] 71)).cell? ⟨t, 1, none⟩ = some o1 by rw [World.cell?_alloc_lt _ _ ⟨t, 1, none⟩ (by simp; omega), World.cell?_alloc_lt _ _ ⟨t, 1, none⟩ tl]; exact ht1)
  have F0 := Lib.hid (show ((w.alloc (.cells #[.pointer (some ⟨t, 0, none⟩)] 67)).alloc (.cells #[.pointer (some ⟨1, 67, none⟩), .pointer (some ⟨w.heap.size, 0, none⟩), .int .u64 150] 71)).frozen? ⟨t, 0, none⟩ = false by rw [World.frozen?_alloc_old _ _ ⟨t, 0, none⟩ (by simp; omega), World.frozen?_alloc_old _ _ ⟨t, 0, none⟩ (Nat.ne_of_lt tl)]; exact hf0)
  have F1 := Lib.hid (show ((w.alloc (.cells #[.pointer (some ⟨t, 0, none⟩)] 67)).alloc (.cells #[.pointer (some ⟨1, 67, none⟩), .pointer (some ⟨w.heap.size, 0, none⟩), .int .u64 150] 71)).frozen? ⟨t, 1, none⟩ = false by rw [World.frozen?_alloc_old _ _ ⟨t, 1, none⟩ (by simp; omega), World.frozen?_alloc_old _ _ ⟨t, 1, none⟩ (Nat.ne_of_lt tl)]; exact hf1)
  clear tl ht0 ht1 hf0 hf1
  have HB := Lib.hid hb2
  have C2 := Lib.hid c2
  obtain ⟨T, x, rfl⟩ := hc.iface
  have HC := Lib.hid (hc.keep hb2)
  clear hc hb2 c2 hg
  go_enter Tryf.func22, Tryf.ntmps22
  go_wp2_with (go_at_call 31; refine (asl_fault_hit L e at_ _ t w.heap.size o0 o1 _ HC.out C2.out T0.out T1.out F0.out F1.out).mono ?_; rintro e w' hpost; replace hpost := Lib.hid (HitF.back HB.out hpost); obtain ⟨b, rfl⟩ : ∃ b, e = .returned (.bool b) := ⟨_, hpost.out.1⟩)
  go_ret
  exact hpost.out


set_option maxHeartbeats 4000000 in
set_option maxRecDepth 100000 in
theorem as_fault_miss (L : List Lay)  (v : Value) (t : Nat) (w : World) (hg : ErrType w) (hc : Ch w L .other v) :
    Calls Tryf.prog 22 #[v, .iface 67 (.pointer (some ⟨t, 0, none⟩))] w (Miss w) := by
  have h28 := @run_callFunc_extern Tryf.prog 28 _ (fun args => ReflectliteValue.unpack (args.getD 0 (.tuple #[]))) Tryf.func28 (by kernel_rfl) (by kernel_rfl) (by kernel_rfl) (by kernel_rfl)
  have h29 := @run_callFunc_extern Tryf.prog 29 _ (ReflectliteValue.methodAny (ReflectliteValue.valueError "reflectlite.Value.Type" 0) (fun t _ _ _ => ReflectliteType.toType t)) Tryf.func29 (by kernel_rfl) (by kernel_rfl) (by kernel_rfl) (by kernel_rfl)
  have h30 := @run_callFunc_extern Tryf.prog 30 _ (ReflectliteValue.method (ReflectliteValue.valueError "reflectlite.Value.IsNil" 0) ReflectliteValue.isNil) Tryf.func30 (by kernel_rfl) (by kernel_rfl) (by kernel_rfl) (by kernel_rfl)
  have h48 := @run_callFunc_extern Tryf.prog 48 _ (ReflectliteType.abiMethod fun t => do pure (.int .u8 (← Rtype.kind t))) Tryf.func48 (by kernel_rfl) (by kernel_rfl) (by kernel_rfl) (by kernel_rfl)
  have h67 := @run_callFunc_extern Tryf.prog 67 _ (ReflectliteType.method ReflectliteType.elem) Tryf.func67 (by kernel_rfl) (by kernel_rfl) (by kernel_rfl) (by kernel_rfl)
  have h68 := @run_callFunc_extern Tryf.prog 68 _ (ReflectliteType.relation "Implements" ReflectliteType.implements_) Tryf.func68 (by kernel_rfl) (by kernel_rfl) (by kernel_rfl) (by kernel_rfl)
  have f6 := valueOf_pfault
  have f7 := type_pfault
  have mK := method_Kind
  have mE := method_Elem
  have mI := method_Implements
  have kq := kind_pfault
  have kd := kind_fault
  have eq := elem_pfault
  have im := implements_fault
  have hb2 : Below w.heap.size w ((w.alloc (.cells #[.pointer (some ⟨t, 0, none⟩)] 67)).alloc (.cells #[.pointer (some ⟨1, 67, none⟩), .pointer (some ⟨w.heap.size, 0, none⟩), .int .u64 150] 71)) := ((Below.refl _ _).alloc (Nat.le_refl _) _).alloc (by simp) _
  have n8 := isNil_pfault ⟨w.heap.size, 0, none⟩ ⟨t, 0, none⟩ ((w.alloc (.cells #[.pointer (some ⟨t, 0, none⟩)] 67)).alloc (.cells #[.pointer (some ⟨1, 67, none⟩), .pointer (some ⟨w.heap.size, 0, none⟩), .int .u64 150] 71)) (by rw [World.cell?_alloc_lt _ _ ⟨w.heap.size, 0, none⟩ (by simp)]; simp)
  have hg2 : ((w.alloc (.cells #[.pointer (some ⟨t, 0, none⟩)] 67)).alloc (.cells #[.pointer (some ⟨1, 67, none⟩), .pointer (some ⟨w.heap.size, 0, none⟩), .int .u64 150] 71)).cell? ⟨0, 0, none⟩ = some (.iface 79 (.agg #[.pointer (some ⟨1, 26, none⟩)])) := hg.keep hb2
  have c2 : ((w.alloc (.cells #[.pointer (some ⟨t, 0, none⟩)] 67)).alloc (.cells #[.pointer (some ⟨1, 67, none⟩), .pointer (some ⟨w.heap.size, 0, none⟩), .int .u64 150] 71)).cell? ⟨w.heap.size, 0, none⟩ = some (.pointer (some ⟨t, 0, none⟩)) := by rw [World.cell?_alloc_lt _ _ ⟨w.heap.size, 0, none⟩ (by simp)]; simp
  clear hg2
  have hg2 : ((w.alloc (.cells #[.pointer (some ⟨t, 0, none⟩)] 67)).alloc (.cells #[.pointer (some ⟨1, 67, none⟩), .pointer (some ⟨w.heap.size, 0, none⟩), .int .u64 150] 71)).cell? ⟨0, 0, none⟩ = some (.iface 79 (.agg #[.pointer (some ⟨1, 26, none⟩)])) := hg.keep hb2
  have HB := Lib.hid hb2
  have C2 := Lib.hid c2
  obtain ⟨T, x, rfl⟩ := hc.iface
  have HC := Lib.hid (hc.keep hb2)
  clear hc hb2 c2 hg
  go_enter Tryf.func22, Tryf.ntmps22
  go_wp2_with (go_at_call 31; refine (asl_fault_miss L _ t w.heap.size _ HC.out).mono ?_; rintro e w' hpost; replace hpost := Lib.hid (Miss.back HB.out hpost); obtain ⟨b, rfl⟩ : ∃ b, e = .returned (.bool b) := ⟨_, hpost.out.1⟩)
  go_ret
  exact hpost.out


set_option maxHeartbeats 4000000 in
set_option maxRecDepth 100000 in
theorem as_named_hit (L : List Lay) (b : Base) (s0 : ByteArray) (v : Value) (t : Nat) (w : World) (hg : ErrType w) (hc : Ch w L b v) (ho : outer L = some s0) (ht0 : w.cell? ⟨t, 0, none⟩ = some (.pointer Option.none)) (hf0 : w.frozen? ⟨t, 0, none⟩ = false) :
    Calls Tryf.prog 22 #[v, .iface 52 (.pointer (some ⟨t, 0, none⟩))] w (HitN t s0 w) := by
  have h28 := @run_callFunc_extern Tryf.prog 28 _ (fun args => ReflectliteValue.unpack (args.getD 0 (.tuple #[]))) Tryf.func28 (by kernel_rfl) (by kernel_rfl) (by kernel_rfl) (by kernel_rfl)
  have h29 := @run_callFunc_extern Tryf.prog 29 _ (ReflectliteValue.methodAny (ReflectliteValue.valueError "reflectlite.Value.Type" 0) (fun t _ _ _ => ReflectliteType.toType t)) Tryf.func29 (by kernel_rfl) (by kernel_rfl) (by kernel_rfl) (by kernel_rfl)
  have h30 := @run_callFunc_extern Tryf.prog 30 _ (ReflectliteValue.method (ReflectliteValue.valueError "reflectlite.Value.IsNil" 0) ReflectliteValue.isNil) Tryf.func30 (by kernel_rfl) (by kernel_rfl) (by kernel_rfl) (by kernel_rfl)
  have h48 := @run_callFunc_extern Tryf.prog 48 _ (ReflectliteType.abiMethod fun t => do pure (.int .u8 (← Rtype.kind t))) Tryf.func48 (by kernel_rfl) (by kernel_rfl) (by kernel_rfl) (by kernel_rfl)
  have h67 := @run_callFunc_extern Tryf.prog 67 _ (ReflectliteType.method ReflectliteType.elem) Tryf.func67 (by kernel_rfl) (by kernel_rfl) (by kernel_rfl) (by kernel_rfl)
  have h68 := @run_callFunc_extern Tryf.prog 68 _ (ReflectliteType.relation "Implements" ReflectliteType.implements_) Tryf.func68 (by kernel_rfl) (by kernel_rfl) (by kernel_rfl) (by kernel_rfl)
  have f6 := valueOf_ppnamed
  have f7 := type_ppnamed
  have mK := method_Kind
  have mE := method_Elem
  have mI := method_Implements
  have kq := kind_ppnamed
  have kd := kind_pnamed
  have eq := elem_ppnamed
  have im := implements_pnamed
  have hb2 : Below w.heap.size w ((w.alloc (.cells #[.pointer (some ⟨t, 0, none⟩)] 52)).alloc (.cells #[.pointer (some ⟨1, 52, none⟩), .pointer (some ⟨w.heap.size, 0, none⟩), .int .u64 150] 71)) := ((Below.refl _ _).alloc (Nat.le_refl _) _).alloc (by simp) _
  have n8 := isNil_ppnamed ⟨w.heap.size, 0, none⟩ ⟨t, 0, none⟩ ((w.alloc (.cells #[.pointer (some ⟨t, 0, none⟩)] 52)).alloc (.cells #[.pointer (some ⟨1, 52, none⟩), .pointer (some ⟨w.heap.size, 0, none⟩), .int .u64 150] 71)) (by rw [World.cell?_alloc_lt _ _ ⟨w.heap.size, 0, none⟩ (by simp)]; simp)
  have hg2 : ((w.alloc (.cells #[.pointer (some ⟨t, 0, none⟩)] 52)).alloc (.cells #[.pointer (some ⟨1, 52, none⟩), .pointer (some ⟨w.heap.size, 0, none⟩), .int .u64 150] 71)).cell? ⟨0, 0, none⟩ = some (.iface 79 (.agg #[.pointer (some ⟨1, 26, none⟩)])) := hg.keep hb2
  have c2 : ((w.alloc (.cells #[.pointer (some ⟨t, 0, none⟩)] 52)).alloc (.cells #[.pointer (some ⟨1, 52, none⟩), .pointer (some ⟨w.heap.size, 0, none⟩), .int .u64 150] 71)).cell? ⟨w.heap.size, 0, none⟩ = some (.pointer (some ⟨t, 0, none⟩)) := by rw [World.cell?_alloc_lt _ _ ⟨w.heap.size, 0, none⟩ (by simp)]; simp
  have tl := lt_of_cell ht0
  have T0 := Lib.hid (show ((w.alloc (.cells #[.pointer (some ⟨t, 0, none⟩)] 52)).alloc (.cells #[.pointer (some ⟨1, 52, none⟩), .pointer (some ⟨w.heap.size, 0, none⟩), .int .u64 150] 71)).cell? ⟨t, 0, none⟩ = some (.pointer Option.none) by rw [World.cell?_alloc_lt _ _ ⟨t, 0, none⟩ (by simp; omega), World.cell?_alloc_lt _ _ ⟨t, 0, none⟩ tl]; exact ht0)
  have F0 := Lib.hid (show ((w.alloc (.cells #[.pointer (some ⟨t, 0, none⟩)] 52)).alloc (.cells #[.pointer (some ⟨1, 52, none⟩), .pointer (some ⟨w.heap.size, 0, none⟩), .int .u64 150] 71)).frozen? ⟨t, 0, none⟩ = false by rw [World.frozen?_alloc_old _ _ ⟨t, 0, none⟩ (by simp; omega), World.frozen?_alloc_old _ _ ⟨t, 0, none⟩ (Nat.ne_of_lt tl)]; exact hf0)
  have HO := Lib.hid ho
  clear tl ht0 hf0 ho
  have HB := Lib.hid hb2
  have C2 := Lib.hid c2
  obtain ⟨T, x, rfl⟩ := hc.iface
  have HC := Lib.hid (hc.keep hb2)
  clear hc hb2 c2 hg
  go_enter Tryf.func22, Tryf.ntmps22
  go_wp2_with (go_at_call 31; refine (asl_named_hit L b s0 _ t w.heap.size _ HC.out HO.out C2.out T0.out F0.out).mono ?_; rintro e w' hpost; replace hpost := Lib.hid (HitN.back HB.out hpost); obtain ⟨b, rfl⟩ : ∃ b, e = .returned (.bool b) := ⟨_, hpost.out.1⟩)
  go_ret
  exact hpost.out


set_option maxHeartbeats 4000000 in
set_option maxRecDepth 100000 in
theorem as_named_miss (L : List Lay) (b : Base) (v : Value) (t : Nat) (w : World) (hg : ErrType w) (hc : Ch w L b v) (ho : outer L = Option.none) :
    Calls Tryf.prog 22 #[v, .iface 52 (.pointer (some ⟨t, 0, none⟩))] w (Miss w) := by
  have h28 := @run_callFunc_extern Tryf.prog 28 _ (fun args => ReflectliteValue.unpack (args.getD 0 (.tuple #[]))) Tryf.func28 (by kernel_rfl) (by kernel_rfl) (by kernel_rfl) (by kernel_rfl)
  have h29 := @run_callFunc_extern Tryf.prog 29 _ (ReflectliteValue.methodAny (ReflectliteValue.valueError "reflectlite.Value.Type" 0) (fun t _ _ _ => ReflectliteType.toType t)) Tryf.func29 (by kernel_rfl) (by kernel_rfl) (by kernel_rfl) (by kernel_rfl)
  have h30 := @run_callFunc_extern Tryf.prog 30 _ (ReflectliteValue.method (ReflectliteValue.valueError "reflectlite.Value.IsNil" 0) ReflectliteValue.isNil) Tryf.func30 (by kernel_rfl) (by kernel_rfl) (by kernel_rfl) (by kernel_rfl)
  have h48 := @run_callFunc_extern Tryf.prog 48 _ (ReflectliteType.abiMethod fun t => do pure (.int .u8 (← Rtype.kind t))) Tryf.func48 (by kernel_rfl) (by kernel_rfl) (by kernel_rfl) (by kernel_rfl)
  have h67 := @run_callFunc_extern Tryf.prog 67 _ (ReflectliteType.method ReflectliteType.elem) Tryf.func67 (by kernel_rfl) (by kernel_rfl) (by kernel_rfl) (by kernel_rfl)
  have h68 := @run_callFunc_extern Tryf.prog 68 _ (ReflectliteType.relation "Implements" ReflectliteType.implements_) Tryf.func68 (by kernel_rfl) (by kernel_rfl) (by kernel_rfl) (by kernel_rfl)
  have f6 := valueOf_ppnamed
  have f7 := type_ppnamed
  have mK := method_Kind
  have mE := method_Elem
  have mI := method_Implements
  have kq := kind_ppnamed
  have kd := kind_pnamed
  have eq := elem_ppnamed
  have im := implements_pnamed
  have hb2 : Below w.heap.size w ((w.alloc (.cells #[.pointer (some ⟨t, 0, none⟩)] 52)).alloc (.cells #[.pointer (some ⟨1, 52, none⟩), .pointer (some ⟨w.heap.size, 0, none⟩), .int .u64 150] 71)) := ((Below.refl _ _).alloc (Nat.le_refl _) _).alloc (by simp) _
  have n8 := isNil_ppnamed ⟨w.heap.size, 0, none⟩ ⟨t, 0, none⟩ ((w.alloc (.cells #[.pointer (some ⟨t, 0, none⟩)] 52)).alloc (.cells #[.pointer (some ⟨1, 52, none⟩), .pointer (some ⟨w.heap.size, 0, none⟩), .int .u64 150] 71)) (by rw [World.cell?_alloc_lt _ _ ⟨w.heap.size, 0, none⟩ (by simp)]; simp)
  have hg2 : ((w.alloc (.cells #[.pointer (some ⟨t, 0, none⟩)] 52)).alloc (.cells #[.pointer (some ⟨1, 52, none⟩), .pointer (some ⟨w.heap.size, 0, none⟩), .int .u64 150] 71)).cell? ⟨0, 0, none⟩ = some (.iface 79 (.agg #[.pointer (some ⟨1, 26, none⟩)])) := hg.keep hb2
  have c2 : ((w.alloc (.cells #[.pointer (some ⟨t, 0, none⟩)] 52)).alloc (.cells #[.pointer (some ⟨1, 52, none⟩), .pointer (some ⟨w.heap.size, 0, none⟩), .int .u64 150] 71)).cell? ⟨w.heap.size, 0, none⟩ = some (.pointer (some ⟨t, 0, none⟩)) := by rw [World.cell?_alloc_lt _ _ ⟨w.heap.size, 0, none⟩ (by simp)]; simp
  have HO := Lib.hid ho
  clear ho
  have HB := Lib.hid hb2
  have C2 := Lib.hid c2
  obtain ⟨T, x, rfl⟩ := hc.iface
  have HC := Lib.hid (hc.keep hb2)
  clear hc hb2 c2 hg
  go_enter Tryf.func22, Tryf.ntmps22
  go_wp2_with (go_at_call 31; refine (asl_named_miss L b _ t w.heap.size _ HC.out HO.out).mono ?_; rintro e w' hpost; replace hpost := Lib.hid (Miss.back HB.out hpost); obtain ⟨b, rfl⟩ : ∃ b, e = .returned (.bool b) := ⟨_, hpost.out.1⟩)
  go_ret
  exact hpost.out


end Go.Proofs.YtoolmokcbdkhoaaFmt.Fa
