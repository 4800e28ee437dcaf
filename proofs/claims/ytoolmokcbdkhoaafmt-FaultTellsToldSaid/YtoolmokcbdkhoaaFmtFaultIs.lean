/-
  errors.Is on a chain, at package fault's own target and at a number of package api: what it answers, and that the target alone is written. Conditions: the target is there and may be written.
-/
import Derived.Test.YtoolmokcbdkhoaaFmtFaultAs
import Derived.Deep.QuietTactic
import Derived.BigQuiet
namespace Go.Proofs.YtoolmokcbdkhoaaFmt.Fa
open Go.RowKit Go.Extern.Stop Go.Stop Go.Extern Go.Kit Go.Lib

/-! '==' between two interface values of one integer type -/
section
variable {P : Program} (w : World)
theorem run_equalIn_iface_int (d : Nat) {ti tn : TypeId} {ms : Array (String × TypeId)} {i : TypeInfo} {k : IntKind} (a b : Int)
    (hi : P.underlying ti = some (.interface ms)) (hn : P.underlying tn = some (.int k)) (hinfo : P.info? tn = some i) (hcomp : i.comparable = true) :
    (Op.equalIn (d + 2) ti (.iface tn (.int k a)) (.iface tn (.int k b))).run P w = .ok (a == b) w := by
  simp [Op.equalIn, run_underlying hi, run_underlying hn, typeInfo, hinfo, hcomp]
theorem run_eql_iface_int {ti tn : TypeId} {ms : Array (String × TypeId)} {i : TypeInfo} {k : IntKind} (a b : Int)
    (hi : P.underlying ti = some (.interface ms)) (hn : P.underlying tn = some (.int k)) (hinfo : P.info? tn = some i) (hcomp : i.comparable = true) :
    (binOp .eql ti (.iface tn (.int k a)) (.iface tn (.int k b))).run P w = .ok (.bool (a == b)) w := by
  simp only [binOp]
  simp [Op.equal, Op.maxDepth, run_equalIn_iface_int w 9998 a b hi hn hinfo hcomp]
end

theorem below_drewN {B : Nat} {a w : World} (n : Nat) (h : Below B a w) : Below B a (w.drewN n) := ⟨h.os, h.tape, h.output, h.size, h.block⟩

/-- The target is met: it says so, and no block before it is written. -/
def HitW (q : Nat) (w : World) (x : Ending) (w' : World) : Prop := x = .returned (.bool true) ∧ w'.cell? ⟨q, 1, none⟩ = some (.bool true) ∧ Below q w w'

set_option maxHeartbeats 2000000 in
set_option maxRecDepth 100000 in
theorem fis_yes (e at_ : Int) (q : Nat) (w : World) (h0 : w.cell? ⟨q, 0, none⟩ = some (.int .i64 e)) (h1 : w.cell? ⟨q, 1, none⟩ = some (.bool false)) (hf : w.frozen? ⟨q, 1, none⟩ = false) :
    Calls Tryf.prog 53 #[.agg #[.int .i64 e, .int .i64 at_], .iface 55 (.pointer (some ⟨q, 0, none⟩))] w (HitW q w) := by
  have aw := assert_wanted
  have hq := lt_of_cell h0
  go_enter Tryf.func53, Tryf.ntmps53
  go_wp2_with fail
  go_quiet (fail)
  go_wp2
  go_ret
  refine ⟨rfl, ?_, (below_drewN _ (((Below.refl _ _).alloc (Nat.le_of_lt hq) _))).setCell (Nat.le_refl _) _⟩
  exact World.cell?_setCell_same _ _ _ (u := .bool false) (by rw [World.cell?_drewN, World.cell?_alloc_lt _ _ ⟨q, 1, none⟩ hq]; exact h1)

set_option maxHeartbeats 2000000 in
set_option maxRecDepth 100000 in
theorem fis_no (e e' at_ : Int) (q : Nat) (w : World) (hne : e' ≠ e) (h0 : w.cell? ⟨q, 0, none⟩ = some (.int .i64 e')) :
    Calls Tryf.prog 53 #[.agg #[.int .i64 e, .int .i64 at_], .iface 55 (.pointer (some ⟨q, 0, none⟩))] w (Miss w) := by
  have aw := assert_wanted
  have hq := lt_of_cell h0
  have hx : (e' != e) = true := by simpa using hne
  clear hne
  go_enter Tryf.func53, Tryf.ntmps53
  go_wp2_with fail
  go_quiet (fail)
  go_wp2
  go_ret
  exact ⟨rfl, below_drewN _ (((Below.refl _ _).alloc (Nat.le_refl _) _))⟩

set_option maxHeartbeats 2000000 in
set_option maxRecDepth 100000 in
theorem fis_errno (e e' at_ : Int) (w : World) :
    Calls Tryf.prog 53 #[.agg #[.int .i64 e, .int .i64 at_], .iface 22 (.int .i64 e')] w (Miss w) := by
  have aw := assert_errno
  go_enter Tryf.func53, Tryf.ntmps53
  go_wp2_with fail
  go_quiet (fail)
  go_wp2
  go_ret
  exact ⟨rfl, below_drewN _ (((Below.refl _ _).alloc (Nat.le_refl _) _))⟩


set_option maxHeartbeats 4000000 in
set_option maxRecDepth 100000 in
theorem isl_yes (L : List Lay) (e at_ : Int) (q : Nat) (v : Value) (w : World) (h : Ch w L (.fault e at_) v) (hq0 : w.cell? ⟨q, 0, none⟩ = some (.int .i64 e)) (hq1 : w.cell? ⟨q, 1, none⟩ = some (.bool false)) (hqf : w.frozen? ⟨q, 1, none⟩ = false) :
    Calls Tryf.prog 26 #[v, .iface 55 (.pointer (some ⟨q, 0, none⟩)), .bool true] w (HitW q w) := by
  have iq_fault := has_fault_iIs
  have un_fault := has_fault_iUn
  have mu_fault := unwrap_fault
  have eq_fault := fun (x : Value) (w1 : World) => run_eql_iface_types (P := Tryf.prog) 47 55 x (.pointer (some ⟨q, 0, none⟩)) Tryf.underlying26 (by decide) w1
  have iq_pnamed := no_pnamed_iIs
  have un_pnamed := has_pnamed_iUn
  have mu_pnamed := unwrap_pnamed
  have eq_pnamed := fun (x : Value) (w1 : World) => run_eql_iface_types (P := Tryf.prog) 50 55 x (.pointer (some ⟨q, 0, none⟩)) Tryf.underlying26 (by decide) w1
  have iq_pwrap := no_pwrap_iIs
  have un_pwrap := has_pwrap_iUn
  have mu_pwrap := unwrap_pwrap
  have eq_pwrap := fun (x : Value) (w1 : World) => run_eql_iface_types (P := Tryf.prog) 59 55 x (.pointer (some ⟨q, 0, none⟩)) Tryf.underlying26 (by decide) w1
  have iq_pes := no_pes_iIs
  have un_pes := no_pes_iUn
  have uns_pes := no_pes_iUns
  have eq_pes := fun (x : Value) (w1 : World) => run_eql_iface_types (P := Tryf.prog) 64 55 x (.pointer (some ⟨q, 0, none⟩)) Tryf.underlying26 (by decide) w1
  have iq_errno := no_errno_iIs
  have un_errno := no_errno_iUn
  have uns_errno := no_errno_iUns
  have eq_errno := fun (x : Value) (w1 : World) => run_eql_iface_types (P := Tryf.prog) 22 55 x (.pointer (some ⟨q, 0, none⟩)) Tryf.underlying26 (by decide) w1
  have mi := is_fault
  have HC := Lib.hid h
  clear h
  go_enter Tryf.func26, Tryf.ntmps26
  go_wp2
  go_loopg [0] (L.length + 1) (fun k v wr => ((∃ L', Ch wr L' (.fault e at_) v ∧ k = L'.length + 1) ∨ (False)) ∧ Below w.heap.size w wr)
  case atStart => exact ⟨.inl ⟨L, HC.out, rfl⟩, Below.refl _ _⟩
  case round =>
    obtain ⟨hst, hb⟩ := hrel
    have HB := Lib.hid hb
    have kq := lt_of_cell hq0
    have k0 : wr.cell? ⟨q, 0, none⟩ = some (.int .i64 e) := by rw [hb.cell (p := ⟨q, 0, none⟩) kq]; exact hq0
    have k1 : wr.cell? ⟨q, 1, none⟩ = some (.bool false) := by rw [hb.cell (p := ⟨q, 1, none⟩) kq]; exact hq1
    have kf : wr.frozen? ⟨q, 1, none⟩ = false := by rw [hb.frozen (p := ⟨q, 1, none⟩) kq]; exact hqf
    have KQ := Lib.hid kq
    clear kq
    clear hb
    rcases hst with ⟨L', hc, hk⟩ | hfalse
    case inr =>
      exact hfalse.elim
    have HK := Lib.hid hk
    clear hk
    cases hc with
    | fault =>
      have K0 := Lib.hid k0
      have K1 := Lib.hid k1
      have KF := Lib.hid kf
      clear k0 k1 kf
      go_wp2_with (go_at_call 53; refine (fis_yes e at_ q _ K0.out K1.out KF.out).mono ?_; rintro x w' ⟨rfl, hx1, hx2⟩; have HX := Lib.hid (And.intro hx1 hx2); clear hx1 hx2)
      go_ret
      exact ⟨rfl, HX.out.1, (HB.out.mono (Nat.le_of_lt KQ.out)).trans HX.out.2⟩

    | named p s u L'' _ h0 h1 hs hu =>
      obtain ⟨T, x, rfl⟩ := hu.iface
      have HU := Lib.hid hu
      clear hu
      go_wp2_with (go_at_call 56; refine (named_unwrap p _ _ h1).mono ?_; rintro e w' ⟨rfl, rfl⟩)
      go_roundg (L''.length + 1)
      case measure => rw [HK.out]; simp
      case rel => exact ⟨.inl ⟨L'', HU.out, rfl⟩, HB.out⟩
    | wrap p s u L'' _ h0 h1 hs hu =>
      obtain ⟨T, x, rfl⟩ := hu.iface
      have HU := Lib.hid hu
      clear hu
      go_wp2_with (go_at_call 59; refine (wrap_unwrap p _ _ h1).mono ?_; rintro e w' ⟨rfl, rfl⟩)
      go_roundg (L''.length + 1)
      case measure => rw [HK.out]; simp
      case rel => exact ⟨.inl ⟨L'', HU.out, rfl⟩, HB.out⟩


set_option maxHeartbeats 4000000 in
set_option maxRecDepth 100000 in
theorem isl_no (L : List Lay) (e e' at_ : Int) (q : Nat) (v : Value) (w : World) (h : Ch w L (.fault e at_) v) (hne : e' ≠ e) (hq0 : w.cell? ⟨q, 0, none⟩ = some (.int .i64 e')) :
    Calls Tryf.prog 26 #[v, .iface 55 (.pointer (some ⟨q, 0, none⟩)), .bool true] w (Miss w) := by
  have iq_fault := has_fault_iIs
  have un_fault := has_fault_iUn
  have mu_fault := unwrap_fault
  have eq_fault := fun (x : Value) (w1 : World) => run_eql_iface_types (P := Tryf.prog) 47 55 x (.pointer (some ⟨q, 0, none⟩)) Tryf.underlying26 (by decide) w1
  have iq_pnamed := no_pnamed_iIs
  have un_pnamed := has_pnamed_iUn
  have mu_pnamed := unwrap_pnamed
  have eq_pnamed := fun (x : Value) (w1 : World) => run_eql_iface_types (P := Tryf.prog) 50 55 x (.pointer (some ⟨q, 0, none⟩)) Tryf.underlying26 (by decide) w1
  have iq_pwrap := no_pwrap_iIs
  have un_pwrap := has_pwrap_iUn
  have mu_pwrap := unwrap_pwrap
  have eq_pwrap := fun (x : Value) (w1 : World) => run_eql_iface_types (P := Tryf.prog) 59 55 x (.pointer (some ⟨q, 0, none⟩)) Tryf.underlying26 (by decide) w1
  have iq_pes := no_pes_iIs
  have un_pes := no_pes_iUn
  have uns_pes := no_pes_iUns
  have eq_pes := fun (x : Value) (w1 : World) => run_eql_iface_types (P := Tryf.prog) 64 55 x (.pointer (some ⟨q, 0, none⟩)) Tryf.underlying26 (by decide) w1
  have iq_errno := no_errno_iIs
  have un_errno := no_errno_iUn
  have uns_errno := no_errno_iUns
  have eq_errno := fun (x : Value) (w1 : World) => run_eql_iface_types (P := Tryf.prog) 22 55 x (.pointer (some ⟨q, 0, none⟩)) Tryf.underlying26 (by decide) w1
  have mi := is_fault
  have HC := Lib.hid h
  clear h
  go_enter Tryf.func26, Tryf.ntmps26
  go_wp2
  go_loopg [0] (L.length + 1) (fun k v wr => ((∃ L', Ch wr L' (.fault e at_) v ∧ k = L'.length + 1) ∨ (∃ e0 : Int, v = .iface 22 (.int .i64 e0) ∧ k = 0)) ∧ Below w.heap.size w wr)
  case atStart => exact ⟨.inl ⟨L, HC.out, rfl⟩, Below.refl _ _⟩
  case round =>
    obtain ⟨hst, hb⟩ := hrel
    have HB := Lib.hid hb
    have k0 : wr.cell? ⟨q, 0, none⟩ = some (.int .i64 e') := by rw [hb.cell (p := ⟨q, 0, none⟩) (lt_of_cell hq0)]; exact hq0
    have HN := Lib.hid hne
    clear hb
    rcases hst with ⟨L', hc, hk⟩ | ⟨e0, rfl, hk⟩
    case inr =>
      clear hk
      go_wp2
      go_ret
      exact ⟨rfl, HB.out⟩
    have HK := Lib.hid hk
    clear hk
    cases hc with
    | fault =>
      have K0 := Lib.hid k0
      clear k0 hne
      go_wp2_with (first | (go_at_call 53; refine (fis_no e e' at_ q _ HN.out K0.out).mono ?_; rintro x w1 ⟨rfl, hx2⟩; have HX := Lib.hid hx2; clear hx2) | (go_at_call 54; refine (fault_unwrap _ _ _).mono ?_; rintro x w' ⟨rfl, rfl⟩))
      go_roundg 0
      case measure => rw [HK.out]; simp
      case rel => exact ⟨.inr ⟨e, rfl, rfl⟩, (step HB.out HX.out).alloc (step HB.out HX.out).size _⟩

    | named p s u L'' _ h0 h1 hs hu =>
      obtain ⟨T, x, rfl⟩ := hu.iface
      have HU := Lib.hid hu
      clear hu
      go_wp2_with (go_at_call 56; refine (named_unwrap p _ _ h1).mono ?_; rintro e w' ⟨rfl, rfl⟩)
      go_roundg (L''.length + 1)
      case measure => rw [HK.out]; simp
      case rel => exact ⟨.inl ⟨L'', HU.out, rfl⟩, HB.out⟩
    | wrap p s u L'' _ h0 h1 hs hu =>
      obtain ⟨T, x, rfl⟩ := hu.iface
      have HU := Lib.hid hu
      clear hu
      go_wp2_with (go_at_call 59; refine (wrap_unwrap p _ _ h1).mono ?_; rintro e w' ⟨rfl, rfl⟩)
      go_roundg (L''.length + 1)
      case measure => rw [HK.out]; simp
      case rel => exact ⟨.inl ⟨L'', HU.out, rfl⟩, HB.out⟩


set_option maxHeartbeats 4000000 in
set_option maxRecDepth 100000 in
theorem isl_other (L : List Lay) (q : Nat) (v : Value) (w : World) (h : Ch w L (.other) v)  :
    Calls Tryf.prog 26 #[v, .iface 55 (.pointer (some ⟨q, 0, none⟩)), .bool true] w (Miss w) := by
  have iq_fault := has_fault_iIs
  have un_fault := has_fault_iUn
  have mu_fault := unwrap_fault
  have eq_fault := fun (x : Value) (w1 : World) => run_eql_iface_types (P := Tryf.prog) 47 55 x (.pointer (some ⟨q, 0, none⟩)) Tryf.underlying26 (by decide) w1
  have iq_pnamed := no_pnamed_iIs
  have un_pnamed := has_pnamed_iUn
  have mu_pnamed := unwrap_pnamed
  have eq_pnamed := fun (x : Value) (w1 : World) => run_eql_iface_types (P := Tryf.prog) 50 55 x (.pointer (some ⟨q, 0, none⟩)) Tryf.underlying26 (by decide) w1
  have iq_pwrap := no_pwrap_iIs
  have un_pwrap := has_pwrap_iUn
  have mu_pwrap := unwrap_pwrap
  have eq_pwrap := fun (x : Value) (w1 : World) => run_eql_iface_types (P := Tryf.prog) 59 55 x (.pointer (some ⟨q, 0, none⟩)) Tryf.underlying26 (by decide) w1
  have iq_pes := no_pes_iIs
  have un_pes := no_pes_iUn
  have uns_pes := no_pes_iUns
  have eq_pes := fun (x : Value) (w1 : World) => run_eql_iface_types (P := Tryf.prog) 64 55 x (.pointer (some ⟨q, 0, none⟩)) Tryf.underlying26 (by decide) w1
  have iq_errno := no_errno_iIs
  have un_errno := no_errno_iUn
  have uns_errno := no_errno_iUns
  have eq_errno := fun (x : Value) (w1 : World) => run_eql_iface_types (P := Tryf.prog) 22 55 x (.pointer (some ⟨q, 0, none⟩)) Tryf.underlying26 (by decide) w1
  have mi := is_fault
  have HC := Lib.hid h
  clear h
  go_enter Tryf.func26, Tryf.ntmps26
  go_wp2
  go_loopg [0] (L.length + 1) (fun k v wr => ((∃ L', Ch wr L' (.other) v ∧ k = L'.length + 1) ∨ (False)) ∧ Below w.heap.size w wr)
  case atStart => exact ⟨.inl ⟨L, HC.out, rfl⟩, Below.refl _ _⟩
  case round =>
    obtain ⟨hst, hb⟩ := hrel
    have HB := Lib.hid hb

    clear hb
    rcases hst with ⟨L', hc, hk⟩ | hfalse
    case inr =>
      exact hfalse.elim
    have HK := Lib.hid hk
    clear hk
    cases hc with
    | other p s hq hs =>
      go_wp2
      go_ret
      exact ⟨rfl, HB.out⟩
    | named p s u L'' _ h0 h1 hs hu =>
      obtain ⟨T, x, rfl⟩ := hu.iface
      have HU := Lib.hid hu
      clear hu
      go_wp2_with (go_at_call 56; refine (named_unwrap p _ _ h1).mono ?_; rintro e w' ⟨rfl, rfl⟩)
      go_roundg (L''.length + 1)
      case measure => rw [HK.out]; simp
      case rel => exact ⟨.inl ⟨L'', HU.out, rfl⟩, HB.out⟩
    | wrap p s u L'' _ h0 h1 hs hu =>
      obtain ⟨T, x, rfl⟩ := hu.iface
      have HU := Lib.hid hu
      clear hu
      go_wp2_with (go_at_call 59; refine (wrap_unwrap p _ _ h1).mono ?_; rintro e w' ⟨rfl, rfl⟩)
      go_roundg (L''.length + 1)
      case measure => rw [HK.out]; simp
      case rel => exact ⟨.inl ⟨L'', HU.out, rfl⟩, HB.out⟩


/-- Found; nothing that was there is written. -/
def Yes (w : World) (x : Ending) (w' : World) : Prop := x = .returned (.bool true) ∧ Below w.heap.size w w'
theorem errno_cmp : (Tryf.prog.info? 22).map (·.comparable) = some true := by kernel_rfl


set_option maxHeartbeats 4000000 in
set_option maxRecDepth 100000 in
theorem isl_errno (L : List Lay) (e at_ : Int) (v : Value) (w : World) (h : Ch w L (.fault e at_) v)  :
    Calls Tryf.prog 26 #[v, .iface 22 (.int .i64 e), .bool true] w (Yes w) := by
  have iq_fault := has_fault_iIs
  have un_fault := has_fault_iUn
  have mu_fault := unwrap_fault
  have eq_fault := fun (x : Value) (w1 : World) => run_eql_iface_types (P := Tryf.prog) 47 22 x (.int .i64 e) Tryf.underlying26 (by decide) w1
  have iq_pnamed := no_pnamed_iIs
  have un_pnamed := has_pnamed_iUn
  have mu_pnamed := unwrap_pnamed
  have eq_pnamed := fun (x : Value) (w1 : World) => run_eql_iface_types (P := Tryf.prog) 50 22 x (.int .i64 e) Tryf.underlying26 (by decide) w1
  have iq_pwrap := no_pwrap_iIs
  have un_pwrap := has_pwrap_iUn
  have mu_pwrap := unwrap_pwrap
  have eq_pwrap := fun (x : Value) (w1 : World) => run_eql_iface_types (P := Tryf.prog) 59 22 x (.int .i64 e) Tryf.underlying26 (by decide) w1
  have iq_pes := no_pes_iIs
  have un_pes := no_pes_iUn
  have uns_pes := no_pes_iUns
  have eq_pes := fun (x : Value) (w1 : World) => run_eql_iface_types (P := Tryf.prog) 64 22 x (.int .i64 e) Tryf.underlying26 (by decide) w1
  have iq_errno := no_errno_iIs
  have un_errno := no_errno_iUn
  have uns_errno := no_errno_iUns
  have mi := is_fault
  have HC := Lib.hid h
  clear h
  go_enter Tryf.func26, Tryf.ntmps26
  go_wp2
  go_loopg [0] (L.length + 1) (fun k v wr => ((∃ L', Ch wr L' (.fault e at_) v ∧ k = L'.length + 1) ∨ (v = .iface 22 (.int .i64 e) ∧ k = 0)) ∧ Below w.heap.size w wr)
  case atStart => exact ⟨.inl ⟨L, HC.out, rfl⟩, Below.refl _ _⟩
  case round =>
    obtain ⟨hst, hb⟩ := hrel
    have HB := Lib.hid hb
    obtain ⟨i, hi, hcmp⟩ := Option.map_eq_some_iff.1 errno_cmp
    have heq : ∀ w1, (binOp .eql 26 (.iface 22 (.int .i64 e)) (.iface 22 (.int .i64 e))).run Tryf.prog w1 = .ok (.bool true) w1 := fun w1 => by
      rw [run_eql_iface_int (P := Tryf.prog) w1 e e Tryf.underlying26 Tryf.underlying22 hi hcmp]; simp
    clear hi hcmp
    clear hb
    rcases hst with ⟨L', hc, hk⟩ | ⟨rfl, hk⟩
    case inr =>
      clear hk
      go_wp2
      go_ret
      exact ⟨rfl, HB.out⟩
    have HK := Lib.hid hk
    clear hk
    cases hc with
    | fault =>
      go_wp2_with (first | (go_at_call 53; refine (fis_errno e e at_ _).mono ?_; rintro x w1 ⟨rfl, hx2⟩; have HX := Lib.hid hx2; clear hx2) | (go_at_call 54; refine (fault_unwrap _ _ _).mono ?_; rintro x w' ⟨rfl, rfl⟩))
      go_roundg 0
      case measure => rw [HK.out]; simp
      case rel => exact ⟨.inr ⟨rfl, rfl⟩, (step HB.out HX.out).alloc (step HB.out HX.out).size _⟩

    | named p s u L'' _ h0 h1 hs hu =>
      obtain ⟨T, x, rfl⟩ := hu.iface
      have HU := Lib.hid hu
      clear hu
      go_wp2_with (go_at_call 56; refine (named_unwrap p _ _ h1).mono ?_; rintro e w' ⟨rfl, rfl⟩)
      go_roundg (L''.length + 1)
      case measure => rw [HK.out]; simp
      case rel => exact ⟨.inl ⟨L'', HU.out, rfl⟩, HB.out⟩
    | wrap p s u L'' _ h0 h1 hs hu =>
      obtain ⟨T, x, rfl⟩ := hu.iface
      have HU := Lib.hid hu
      clear hu
      go_wp2_with (go_at_call 59; refine (wrap_unwrap p _ _ h1).mono ?_; rintro e w' ⟨rfl, rfl⟩)
      go_roundg (L''.length + 1)
      case measure => rw [HK.out]; simp
      case rel => exact ⟨.inl ⟨L'', HU.out, rfl⟩, HB.out⟩


end Go.Proofs.YtoolmokcbdkhoaaFmt.Fa
