/-
  errors.As on a chain, at a variable for an error made by New and at a variable for a name: what is found, and what is written. Conditions: errors' own variable for the type error holds what the program's text lays there; the variable that is the target is there and may be written.
-/
import Derived.Test.YtoolmokcbdkhoaaFmtFaultRef
import Derived.Deep.LoopGhost
namespace Go.Proofs.YtoolmokcbdkhoaaFmt.Fa
open Go.RowKit Go.Extern.Stop Go.Stop Go.Extern Go.Kit Go.Lib

theorem named_unwrap (p : Nat) (u : Value) (w : World) (h1 : w.cell? ⟨p, 1, none⟩ = some u) : Calls Tryf.prog 56 #[.pointer (some ⟨p, 0, none⟩)] w fun e w' => e = .returned u ∧ w = w' := by
  go_enter Tryf.func56, Tryf.ntmps56
  go_wp2
  go_ret
  exact ⟨rfl, rfl⟩

theorem wrap_unwrap (p : Nat) (u : Value) (w : World) (h1 : w.cell? ⟨p, 1, none⟩ = some u) : Calls Tryf.prog 59 #[.pointer (some ⟨p, 0, none⟩)] w fun e w' => e = .returned u ∧ w = w' := by
  go_enter Tryf.func59, Tryf.ntmps59
  go_wp2
  go_ret
  exact ⟨rfl, rfl⟩

theorem fault_unwrap (e at_ : Int) (w : World) : Calls Tryf.prog 54 #[.agg #[.int .i64 e, .int .i64 at_]] w fun x w' => x = .returned (.iface 22 (.int .i64 e)) ∧ w' = w.alloc (.cells #[.int .i64 e, .int .i64 at_] 47) := by
  go_enter Tryf.func54, Tryf.ntmps54
  go_wp2
  go_ret
  exact ⟨rfl, rfl⟩

theorem Ch.iface {w : World} {L : List Lay} {b : Base} {v : Value} (h : Ch w L b v) : ∃ T x, v = .iface T x := by
  cases h <;> exact ⟨_, _, rfl⟩


/-- What errors.As has done where an error made by New lies within: the variable at t holds it. -/
def HitF (t : Nat) (e at_ : Int) (w : World) (x : Ending) (w' : World) : Prop := x = .returned (.bool true) ∧ ∃ w1 o, Below w.heap.size w w1 ∧ w' = ((w1.setCell ⟨t, 0, none⟩ (.int .i64 e)).setCell ⟨t, 1, none⟩ (.int .i64 at_)).alloc o

set_option maxHeartbeats 4000000 in
set_option maxRecDepth 100000 in
theorem asl_fault_hit (L : List Lay) (e at_ : Int) (v : Value) (t a : Nat) (o0 o1 : Value) (w : World) (h : Ch w L (.fault e at_) v) (ha : w.cell? ⟨a, 0, none⟩ = some (.pointer (some ⟨t, 0, none⟩)))
    (ht0 : w.cell? ⟨t, 0, none⟩ = some o0) (ht1 : w.cell? ⟨t, 1, none⟩ = some o1) (hf0 : w.frozen? ⟨t, 0, none⟩ = false) (hf1 : w.frozen? ⟨t, 1, none⟩ = false) :
    Calls Tryf.prog 31 #[v, .iface 67 (.pointer (some ⟨t, 0, none⟩)), .agg #[.pointer (some ⟨1, 67, none⟩), .pointer (some ⟨a, 0, none⟩), .int .u64 150], .iface 79 (.agg #[.pointer (some ⟨1, 47, none⟩)])] w (HitF t e at_ w) := by
  have a_fault := assign_fault_fault
  have t_fault := typeOf_fault
  have as_fault := no_fault_iAs
  have un_fault := has_fault_iUn
  have mu_fault := unwrap_fault
  have a_pnamed := assign_fault_pnamed
  have t_pnamed := typeOf_pnamed
  have as_pnamed := no_pnamed_iAs
  have un_pnamed := has_pnamed_iUn
  have mu_pnamed := unwrap_pnamed
  have a_pwrap := assign_fault_pwrap
  have t_pwrap := typeOf_pwrap
  have as_pwrap := no_pwrap_iAs
  have un_pwrap := has_pwrap_iUn
  have mu_pwrap := unwrap_pwrap
  have a_pes := assign_fault_pes
  have t_pes := typeOf_pes
  have as_pes := no_pes_iAs
  have un_pes := no_pes_iUn
  have uns_pes := no_pes_iUns
  have a_errno := assign_fault_errno
  have t_errno := typeOf_errno
  have as_errno := no_errno_iAs
  have un_errno := no_errno_iUn
  have uns_errno := no_errno_iUns
  have mA := method_AssignableTo
  have h25 := @run_callFunc_extern Tryf.prog 25 _ ReflectliteType.typeOf Tryf.func25 (by kernel_rfl) (by kernel_rfl) (by kernel_rfl) (by kernel_rfl)
  have h65 := @run_callFunc_extern Tryf.prog 65 _ (ReflectliteType.relation "AssignableTo" ReflectliteType.assignableTo) Tryf.func65 (by kernel_rfl) (by kernel_rfl) (by kernel_rfl) (by kernel_rfl)
  have h28 := @run_callFunc_extern Tryf.prog 28 _ (fun args => ReflectliteValue.unpack (args.getD 0 (.tuple #[]))) Tryf.func28 (by kernel_rfl) (by kernel_rfl) (by kernel_rfl) (by kernel_rfl)
  have h32 := @run_callFunc_extern Tryf.prog 32 _ (ReflectliteValue.method (ReflectliteValue.valueError "reflectlite.Value.Elem" 0) ReflectliteValue.elem) Tryf.func32 (by kernel_rfl) (by kernel_rfl) (by kernel_rfl) (by kernel_rfl)
  have h33 := @run_callFunc_extern Tryf.prog 33 _ ReflectliteValue.set Tryf.func33 (by kernel_rfl) (by kernel_rfl) (by kernel_rfl) (by kernel_rfl)
  have HC := Lib.hid h
  clear h
  have hal := lt_of_cell ha
  have htl := lt_of_cell ht0
  go_enter Tryf.func31, Tryf.ntmps31
  go_wp2
  go_loopg [0] L.length (fun k v wr => ∃ L', Ch wr L' (.fault e at_) v ∧ k = L'.length ∧ Below (w.alloc (.cells #[.pointer (some ⟨1, 67, none⟩), .pointer (some ⟨a, 0, none⟩), .int .u64 150] 71)).heap.size (w.alloc (.cells #[.pointer (some ⟨1, 67, none⟩), .pointer (some ⟨a, 0, none⟩), .int .u64 150] 71)) wr)
  case atStart => exact ⟨L, HC.out.keep ((Below.refl _ _).alloc (Nat.le_refl _) _), rfl, Below.refl _ _⟩
  case round =>
    obtain ⟨L', hc, hk, hb⟩ := hrel
    have HB := Lib.hid hb
    have HK := Lib.hid hk
    have hal' : a < (w.alloc (.cells #[.pointer (some ⟨1, 67, none⟩), .pointer (some ⟨a, 0, none⟩), .int .u64 150] 71)).heap.size := by simp; omega
    have htl' : t < (w.alloc (.cells #[.pointer (some ⟨1, 67, none⟩), .pointer (some ⟨a, 0, none⟩), .int .u64 150] 71)).heap.size := by simp; omega
    have k0 : wr.cell? ⟨w.heap.size, 0, none⟩ = some (.pointer (some ⟨1, 67, none⟩)) := by rw [hb.cell (p := ⟨w.heap.size, 0, none⟩) (by simp)]; simp
    have k1 : wr.cell? ⟨w.heap.size, 1, none⟩ = some (.pointer (some ⟨a, 0, none⟩)) := by rw [hb.cell (p := ⟨w.heap.size, 1, none⟩) (by simp)]; simp
    have k2 : wr.cell? ⟨w.heap.size, 2, none⟩ = some (.int .u64 150) := by rw [hb.cell (p := ⟨w.heap.size, 2, none⟩) (by simp)]; simp
    have ka : wr.cell? ⟨a, 0, none⟩ = some (.pointer (some ⟨t, 0, none⟩)) := by rw [hb.cell (p := ⟨a, 0, none⟩) hal', World.cell?_alloc_lt _ _ ⟨a, 0, none⟩ hal]; exact ha
    have kt0 : wr.cell? ⟨t, 0, none⟩ = some o0 := by rw [hb.cell (p := ⟨t, 0, none⟩) htl', World.cell?_alloc_lt _ _ ⟨t, 0, none⟩ htl]; exact ht0
    have kt1 : wr.cell? ⟨t, 1, none⟩ = some o1 := by rw [hb.cell (p := ⟨t, 1, none⟩) htl', World.cell?_alloc_lt _ _ ⟨t, 1, none⟩ htl]; exact ht1
    have kf0 : wr.frozen? ⟨t, 0, none⟩ = false := by rw [hb.frozen (p := ⟨t, 0, none⟩) htl', World.frozen?_alloc_old _ _ ⟨t, 0, none⟩ (Nat.ne_of_lt htl)]; exact hf0
    have kf1 : wr.frozen? ⟨t, 1, none⟩ = false := by rw [hb.frozen (p := ⟨t, 1, none⟩) htl', World.frozen?_alloc_old _ _ ⟨t, 1, none⟩ (Nat.ne_of_lt htl)]; exact hf1
    clear hb hk ha ht0 ht1 hf0 hf1
    cases hc with
    | fault =>
      have vf := valueOf_fault
      have ev := elemV_pfault ⟨a, 0, none⟩ ⟨t, 0, none⟩ wr ka
      have tl := lt_of_cell kt0
      have st := set_fault t wr.heap.size e at_ o0 o1 (wr.alloc (.cells #[.int .i64 e, .int .i64 at_] 47)) (by simp) (by simp)
        (by rw [World.cell?_alloc_lt _ _ ⟨t, 0, none⟩ tl]; exact kt0) (by rw [World.cell?_alloc_lt _ _ ⟨t, 1, none⟩ tl]; exact kt1)
        (by rw [World.frozen?_alloc_old _ _ ⟨t, 0, none⟩ (Nat.ne_of_lt tl)]; exact kf0) (by rw [World.frozen?_alloc_old _ _ ⟨t, 1, none⟩ (Nat.ne_of_lt tl)]; exact kf1)
      go_wp2
      go_ret
      exact ⟨rfl, _, _, ((Below.refl _ _).alloc (Nat.le_refl _) _).trans (HB.out.mono (by simp)), rfl⟩
    | named p s u L'' _ h0 h1 hs hu =>
      obtain ⟨T, x, rfl⟩ := hu.iface
      have HU := Lib.hid hu
      clear hu
      go_wp2_with (go_at_call 56; refine (named_unwrap p _ _ h1).mono ?_; rintro e w' ⟨rfl, rfl⟩)
      go_roundg L''.length
      case measure => rw [HK.out]; simp
      case rel => exact ⟨L'', HU.out, rfl, HB.out⟩
    | wrap p s u L'' _ h0 h1 hs hu =>
      obtain ⟨T, x, rfl⟩ := hu.iface
      have HU := Lib.hid hu
      clear hu
      go_wp2_with (go_at_call 59; refine (wrap_unwrap p _ _ h1).mono ?_; rintro e w' ⟨rfl, rfl⟩)
      go_roundg L''.length
      case measure => rw [HK.out]; simp
      case rel => exact ⟨L'', HU.out, rfl, HB.out⟩


/-- Nothing found. -/
def Miss (w : World) (x : Ending) (w' : World) : Prop := x = .returned (.bool false) ∧ Below w.heap.size w w'

set_option maxHeartbeats 4000000 in
set_option maxRecDepth 100000 in
theorem asl_fault_miss (L : List Lay) (v : Value) (t a : Nat) (w : World) (h : Ch w L .other v) :
    Calls Tryf.prog 31 #[v, .iface 67 (.pointer (some ⟨t, 0, none⟩)), .agg #[.pointer (some ⟨1, 67, none⟩), .pointer (some ⟨a, 0, none⟩), .int .u64 150], .iface 79 (.agg #[.pointer (some ⟨1, 47, none⟩)])] w (Miss w) := by
  have a_fault := assign_fault_fault
  have t_fault := typeOf_fault
  have as_fault := no_fault_iAs
  have un_fault := has_fault_iUn
  have mu_fault := unwrap_fault
  have a_pnamed := assign_fault_pnamed
  have t_pnamed := typeOf_pnamed
  have as_pnamed := no_pnamed_iAs
  have un_pnamed := has_pnamed_iUn
  have mu_pnamed := unwrap_pnamed
  have a_pwrap := assign_fault_pwrap
  have t_pwrap := typeOf_pwrap
  have as_pwrap := no_pwrap_iAs
  have un_pwrap := has_pwrap_iUn
  have mu_pwrap := unwrap_pwrap
  have a_pes := assign_fault_pes
  have t_pes := typeOf_pes
  have as_pes := no_pes_iAs
  have un_pes := no_pes_iUn
  have uns_pes := no_pes_iUns
  have a_errno := assign_fault_errno
  have t_errno := typeOf_errno
  have as_errno := no_errno_iAs
  have un_errno := no_errno_iUn
  have uns_errno := no_errno_iUns
  have mA := method_AssignableTo
  have h25 := @run_callFunc_extern Tryf.prog 25 _ ReflectliteType.typeOf Tryf.func25 (by kernel_rfl) (by kernel_rfl) (by kernel_rfl) (by kernel_rfl)
  have h65 := @run_callFunc_extern Tryf.prog 65 _ (ReflectliteType.relation "AssignableTo" ReflectliteType.assignableTo) Tryf.func65 (by kernel_rfl) (by kernel_rfl) (by kernel_rfl) (by kernel_rfl)
  have h28 := @run_callFunc_extern Tryf.prog 28 _ (fun args => ReflectliteValue.unpack (args.getD 0 (.tuple #[]))) Tryf.func28 (by kernel_rfl) (by kernel_rfl) (by kernel_rfl) (by kernel_rfl)
  have h32 := @run_callFunc_extern Tryf.prog 32 _ (ReflectliteValue.method (ReflectliteValue.valueError "reflectlite.Value.Elem" 0) ReflectliteValue.elem) Tryf.func32 (by kernel_rfl) (by kernel_rfl) (by kernel_rfl) (by kernel_rfl)
  have h33 := @run_callFunc_extern Tryf.prog 33 _ ReflectliteValue.set Tryf.func33 (by kernel_rfl) (by kernel_rfl) (by kernel_rfl) (by kernel_rfl)
  have HC := Lib.hid h
  clear h
  go_enter Tryf.func31, Tryf.ntmps31
  go_wp2
  go_loopg [0] L.length (fun k v wr => ∃ L', Ch wr L' .other v ∧ k = L'.length ∧ Below (w.alloc (.cells #[.pointer (some ⟨1, 67, none⟩), .pointer (some ⟨a, 0, none⟩), .int .u64 150] 71)).heap.size (w.alloc (.cells #[.pointer (some ⟨1, 67, none⟩), .pointer (some ⟨a, 0, none⟩), .int .u64 150] 71)) wr)
  case atStart => exact ⟨L, HC.out.keep ((Below.refl _ _).alloc (Nat.le_refl _) _), rfl, Below.refl _ _⟩
  case round =>
    obtain ⟨L', hc, hk, hb⟩ := hrel
    have HB := Lib.hid hb
    have HK := Lib.hid hk
    clear hb hk
    cases hc with
    | other p s hq hs =>
      go_wp2
      go_ret
      exact ⟨rfl, ((Below.refl _ _).alloc (Nat.le_refl _) _).trans (HB.out.mono (by simp))⟩
    | named p s u L'' _ h0 h1 hs hu =>
      obtain ⟨T, x, rfl⟩ := hu.iface
      have HU := Lib.hid hu
      clear hu
      go_wp2_with (go_at_call 56; refine (named_unwrap p _ _ h1).mono ?_; rintro e w' ⟨rfl, rfl⟩)
      go_roundg L''.length
      case measure => rw [HK.out]; simp
      case rel => exact ⟨L'', HU.out, rfl, HB.out⟩
    | wrap p s u L'' _ h0 h1 hs hu =>
      obtain ⟨T, x, rfl⟩ := hu.iface
      have HU := Lib.hid hu
      clear hu
      go_wp2_with (go_at_call 59; refine (wrap_unwrap p _ _ h1).mono ?_; rintro e w' ⟨rfl, rfl⟩)
      go_roundg L''.length
      case measure => rw [HK.out]; simp
      case rel => exact ⟨L'', HU.out, rfl, HB.out⟩

/-- The outermost name of a chain. -/
def outer : List Lay → Option ByteArray
  | [] => Option.none
  | .named s :: _ => some s
  | .wrap :: L => outer L

/-- What errors.As has done where a name is there: the variable at t holds a pointer to it. -/
def HitN (t : Nat) (s : ByteArray) (w : World) (x : Ending) (w' : World) : Prop :=
  x = .returned (.bool true) ∧ ∃ w1 o p, Below w.heap.size w w1 ∧ w' = (w1.setCell ⟨t, 0, none⟩ (.pointer (some ⟨p, 0, none⟩))).alloc o ∧ w1.cell? ⟨p, 0, none⟩ = some (.string s) ∧ p ≠ t

set_option maxHeartbeats 4000000 in
set_option maxRecDepth 100000 in
theorem asl_named_hit (L : List Lay) (b : Base) (s0 : ByteArray) (v : Value) (t a : Nat) (w : World) (h : Ch w L b v) (ho : outer L = some s0) (ha : w.cell? ⟨a, 0, none⟩ = some (.pointer (some ⟨t, 0, none⟩)))
    (ht0 : w.cell? ⟨t, 0, none⟩ = some (.pointer Option.none)) (hf0 : w.frozen? ⟨t, 0, none⟩ = false) :
    Calls Tryf.prog 31 #[v, .iface 52 (.pointer (some ⟨t, 0, none⟩)), .agg #[.pointer (some ⟨1, 52, none⟩), .pointer (some ⟨a, 0, none⟩), .int .u64 150], .iface 79 (.agg #[.pointer (some ⟨1, 50, none⟩)])] w (HitN t s0 w) := by
  have a_fault := assign_pnamed_fault
  have t_fault := typeOf_fault
  have as_fault := no_fault_iAs
  have un_fault := has_fault_iUn
  have mu_fault := unwrap_fault
  have a_pnamed := assign_pnamed_pnamed
  have t_pnamed := typeOf_pnamed
  have as_pnamed := no_pnamed_iAs
  have un_pnamed := has_pnamed_iUn
  have mu_pnamed := unwrap_pnamed
  have a_pwrap := assign_pnamed_pwrap
  have t_pwrap := typeOf_pwrap
  have as_pwrap := no_pwrap_iAs
  have un_pwrap := has_pwrap_iUn
  have mu_pwrap := unwrap_pwrap
  have a_pes := assign_pnamed_pes
  have t_pes := typeOf_pes
  have as_pes := no_pes_iAs
  have un_pes := no_pes_iUn
  have uns_pes := no_pes_iUns
  have a_errno := assign_pnamed_errno
  have t_errno := typeOf_errno
  have as_errno := no_errno_iAs
  have un_errno := no_errno_iUn
  have uns_errno := no_errno_iUns
  have mA := method_AssignableTo
  have h25 := @run_callFunc_extern Tryf.prog 25 _ ReflectliteType.typeOf Tryf.func25 (by kernel_rfl) (by kernel_rfl) (by kernel_rfl) (by kernel_rfl)
  have h65 := @run_callFunc_extern Tryf.prog 65 _ (ReflectliteType.relation "AssignableTo" ReflectliteType.assignableTo) Tryf.func65 (by kernel_rfl) (by kernel_rfl) (by kernel_rfl) (by kernel_rfl)
  have h28 := @run_callFunc_extern Tryf.prog 28 _ (fun args => ReflectliteValue.unpack (args.getD 0 (.tuple #[]))) Tryf.func28 (by kernel_rfl) (by kernel_rfl) (by kernel_rfl) (by kernel_rfl)
  have h32 := @run_callFunc_extern Tryf.prog 32 _ (ReflectliteValue.method (ReflectliteValue.valueError "reflectlite.Value.Elem" 0) ReflectliteValue.elem) Tryf.func32 (by kernel_rfl) (by kernel_rfl) (by kernel_rfl) (by kernel_rfl)
  have h33 := @run_callFunc_extern Tryf.prog 33 _ ReflectliteValue.set Tryf.func33 (by kernel_rfl) (by kernel_rfl) (by kernel_rfl) (by kernel_rfl)
  have HC := Lib.hid h
  have HO0 := Lib.hid ho
  clear h ho
  have hal := lt_of_cell ha
  have htl := lt_of_cell ht0
  go_enter Tryf.func31, Tryf.ntmps31
  go_wp2
  go_loopg [0] L.length (fun k v wr => ∃ L', Ch wr L' b v ∧ outer L' = some s0 ∧ k = L'.length ∧ Below (w.alloc (.cells #[.pointer (some ⟨1, 52, none⟩), .pointer (some ⟨a, 0, none⟩), .int .u64 150] 71)).heap.size (w.alloc (.cells #[.pointer (some ⟨1, 52, none⟩), .pointer (some ⟨a, 0, none⟩), .int .u64 150] 71)) wr)
  case atStart => exact ⟨L, HC.out.keep ((Below.refl _ _).alloc (Nat.le_refl _) _), HO0.out, rfl, Below.refl _ _⟩
  case round =>
    obtain ⟨L', hc, ho, hk, hb⟩ := hrel
    have HB := Lib.hid hb
    have HK := Lib.hid hk
    have HO := Lib.hid ho
    have hal' : a < (w.alloc (.cells #[.pointer (some ⟨1, 52, none⟩), .pointer (some ⟨a, 0, none⟩), .int .u64 150] 71)).heap.size := by simp; omega
    have htl' : t < (w.alloc (.cells #[.pointer (some ⟨1, 52, none⟩), .pointer (some ⟨a, 0, none⟩), .int .u64 150] 71)).heap.size := by simp; omega
    have k0 : wr.cell? ⟨w.heap.size, 0, none⟩ = some (.pointer (some ⟨1, 52, none⟩)) := by rw [hb.cell (p := ⟨w.heap.size, 0, none⟩) (by simp)]; simp
    have k1 : wr.cell? ⟨w.heap.size, 1, none⟩ = some (.pointer (some ⟨a, 0, none⟩)) := by rw [hb.cell (p := ⟨w.heap.size, 1, none⟩) (by simp)]; simp
    have k2 : wr.cell? ⟨w.heap.size, 2, none⟩ = some (.int .u64 150) := by rw [hb.cell (p := ⟨w.heap.size, 2, none⟩) (by simp)]; simp
    have ka : wr.cell? ⟨a, 0, none⟩ = some (.pointer (some ⟨t, 0, none⟩)) := by rw [hb.cell (p := ⟨a, 0, none⟩) hal', World.cell?_alloc_lt _ _ ⟨a, 0, none⟩ hal]; exact ha
    have kt0 : wr.cell? ⟨t, 0, none⟩ = some (.pointer Option.none) := by rw [hb.cell (p := ⟨t, 0, none⟩) htl', World.cell?_alloc_lt _ _ ⟨t, 0, none⟩ htl]; exact ht0
    have kf0 : wr.frozen? ⟨t, 0, none⟩ = false := by rw [hb.frozen (p := ⟨t, 0, none⟩) htl', World.frozen?_alloc_old _ _ ⟨t, 0, none⟩ (Nat.ne_of_lt htl)]; exact hf0
    clear hb hk ha ht0 hf0 ho
    cases hc with
    | fault => have := HO.out; simp [outer] at this
    | other => have := HO.out; simp [outer] at this
    | named p s u L'' _ h0 h1 hs hu =>
      obtain rfl : s = s0 := by have := HO.out; simpa [outer] using this
      have hne : p ≠ t := by
        intro e
        subst e
        rw [h0] at kt0
        cases kt0
      have HN := Lib.hid hne
      clear hne
      have vf := valueOf_pnamed
      have ev := elemV_ppnamed ⟨a, 0, none⟩ ⟨t, 0, none⟩ wr ka
      have tl := lt_of_cell kt0
      have st := set_pnamed ⟨t, 0, none⟩ ⟨wr.heap.size, 0, none⟩ ⟨p, 0, none⟩ (.pointer Option.none) (wr.alloc (.cells #[.pointer (some ⟨p, 0, none⟩)] 50)) (by simp)
        (by rw [World.cell?_alloc_lt _ _ ⟨t, 0, none⟩ tl]; exact kt0)
        (by rw [World.frozen?_alloc_old _ _ ⟨t, 0, none⟩ (Nat.ne_of_lt tl)]; exact kf0)
      have H0 := Lib.hid h0
      clear h0 h1 kt0
      go_wp2
      go_ret
      exact ⟨rfl, _, _, p, ((Below.refl _ _).alloc (Nat.le_refl _) _).trans (HB.out.mono (by simp)), rfl, H0.out, HN.out⟩
    | wrap p s u L'' _ h0 h1 hs hu =>
      obtain ⟨T, x, rfl⟩ := hu.iface
      have HU := Lib.hid hu
      clear hu
      go_wp2_with (go_at_call 59; refine (wrap_unwrap p _ _ h1).mono ?_; rintro e w' ⟨rfl, rfl⟩)
      go_roundg L''.length
      case measure => rw [HK.out]; simp
      case rel => exact ⟨L'', HU.out, by have := HO.out; simpa [outer] using this, rfl, HB.out⟩

set_option maxHeartbeats 4000000 in
set_option maxRecDepth 100000 in
theorem asl_named_miss (L : List Lay) (b : Base) (v : Value) (t a : Nat) (w : World) (h : Ch w L b v) (ho : outer L = Option.none) :
    Calls Tryf.prog 31 #[v, .iface 52 (.pointer (some ⟨t, 0, none⟩)), .agg #[.pointer (some ⟨1, 52, none⟩), .pointer (some ⟨a, 0, none⟩), .int .u64 150], .iface 79 (.agg #[.pointer (some ⟨1, 50, none⟩)])] w (Miss w) := by
  have a_fault := assign_pnamed_fault
  have t_fault := typeOf_fault
  have as_fault := no_fault_iAs
  have un_fault := has_fault_iUn
  have mu_fault := unwrap_fault
  have a_pnamed := assign_pnamed_pnamed
  have t_pnamed := typeOf_pnamed
  have as_pnamed := no_pnamed_iAs
  have un_pnamed := has_pnamed_iUn
  have mu_pnamed := unwrap_pnamed
  have a_pwrap := assign_pnamed_pwrap
  have t_pwrap := typeOf_pwrap
  have as_pwrap := no_pwrap_iAs
  have un_pwrap := has_pwrap_iUn
  have mu_pwrap := unwrap_pwrap
  have a_pes := assign_pnamed_pes
  have t_pes := typeOf_pes
  have as_pes := no_pes_iAs
  have un_pes := no_pes_iUn
  have uns_pes := no_pes_iUns
  have a_errno := assign_pnamed_errno
  have t_errno := typeOf_errno
  have as_errno := no_errno_iAs
  have un_errno := no_errno_iUn
  have uns_errno := no_errno_iUns
  have mA := method_AssignableTo
  have h25 := @run_callFunc_extern Tryf.prog 25 _ ReflectliteType.typeOf Tryf.func25 (by kernel_rfl) (by kernel_rfl) (by kernel_rfl) (by kernel_rfl)
  have h65 := @run_callFunc_extern Tryf.prog 65 _ (ReflectliteType.relation "AssignableTo" ReflectliteType.assignableTo) Tryf.func65 (by kernel_rfl) (by kernel_rfl) (by kernel_rfl) (by kernel_rfl)
  have h28 := @run_callFunc_extern Tryf.prog 28 _ (fun args => ReflectliteValue.unpack (args.getD 0 (.tuple #[]))) Tryf.func28 (by kernel_rfl) (by kernel_rfl) (by kernel_rfl) (by kernel_rfl)
  have h32 := @run_callFunc_extern Tryf.prog 32 _ (ReflectliteValue.method (ReflectliteValue.valueError "reflectlite.Value.Elem" 0) ReflectliteValue.elem) Tryf.func32 (by kernel_rfl) (by kernel_rfl) (by kernel_rfl) (by kernel_rfl)
  have h33 := @run_callFunc_extern Tryf.prog 33 _ ReflectliteValue.set Tryf.func33 (by kernel_rfl) (by kernel_rfl) (by kernel_rfl) (by kernel_rfl)
  have HC := Lib.hid h
  have HO0 := Lib.hid ho
  clear h ho
  go_enter Tryf.func31, Tryf.ntmps31
  go_wp2
  go_loopg [0] (L.length + 1) (fun k v wr => ((∃ L', Ch wr L' b v ∧ outer L' = Option.none ∧ k = L'.length + 1) ∨ (∃ e : Int, v = .iface 22 (.int .i64 e) ∧ k = 0)) ∧ Below (w.alloc (.cells #[.pointer (some ⟨1, 52, none⟩), .pointer (some ⟨a, 0, none⟩), .int .u64 150] 71)).heap.size (w.alloc (.cells #[.pointer (some ⟨1, 52, none⟩), .pointer (some ⟨a, 0, none⟩), .int .u64 150] 71)) wr)
  case atStart => exact ⟨.inl ⟨L, HC.out.keep ((Below.refl _ _).alloc (Nat.le_refl _) _), HO0.out, rfl⟩, Below.refl _ _⟩
  case round =>
    obtain ⟨hst, hb⟩ := hrel
    have HB := Lib.hid hb
    clear hb
    rcases hst with ⟨L', hc, ho, hk⟩ | ⟨e, rfl, hk⟩
    case inr =>
      clear hk
      go_wp2
      go_ret
      exact ⟨rfl, ((Below.refl _ _).alloc (Nat.le_refl _) _).trans (HB.out.mono (by simp))⟩
    have HK := Lib.hid hk
    have HO := Lib.hid ho
    clear hk ho
    cases hc with
    | fault e at_ =>
      go_wp2_with (go_at_call 54; refine (fault_unwrap _ _ _).mono ?_; rintro e w' ⟨rfl, rfl⟩)
      go_roundg 0
      case measure => rw [HK.out]; simp
      case rel => exact ⟨.inr ⟨e, rfl, rfl⟩, HB.out.alloc HB.out.size _⟩
    | other p s hq hs =>
      go_wp2
      go_ret
      exact ⟨rfl, ((Below.refl _ _).alloc (Nat.le_refl _) _).trans (HB.out.mono (by simp))⟩
    | named p s u L'' _ h0 h1 hs hu => have := HO.out; simp [outer] at this
    | wrap p s u L'' _ h0 h1 hs hu =>
      obtain ⟨T, x, rfl⟩ := hu.iface
      have HU := Lib.hid hu
      clear hu
      go_wp2_with (go_at_call 59; refine (wrap_unwrap p _ _ h1).mono ?_; rintro e w' ⟨rfl, rfl⟩)
      go_roundg (L''.length + 1)
      case measure => rw [HK.out]; simp
      case rel => exact ⟨.inl ⟨L'', HU.out, by have := HO.out; simpa [outer] using this, rfl⟩, HB.out⟩


end Go.Proofs.YtoolmokcbdkhoaaFmt.Fa
