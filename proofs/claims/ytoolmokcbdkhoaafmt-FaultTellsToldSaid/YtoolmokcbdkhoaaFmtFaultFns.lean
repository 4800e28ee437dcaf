/-
  errors.Is itself, by errors.is's contracts; and package fault's inner: the error made by New within a chain, or none. Conditions: errors' own variable for the type error holds what the program's text lays there; the target may be written.
-/
import Derived.Test.YtoolmokcbdkhoaaFmtFaultAsAll
import Derived.Test.YtoolmokcbdkhoaaFmtFaultIs
import Derived.Defers
import Derived.Recover
namespace Go.Proofs.YtoolmokcbdkhoaaFmt.Fa
open Go.RowKit Go.Extern.Stop Go.Stop Go.Extern Go.Kit Go.Lib


set_option maxHeartbeats 2000000 in
set_option maxRecDepth 100000 in
theorem is_yes (L : List Lay) (e at_ : Int) (q : Nat) (v : Value) (w : World) (h : Ch w L (.fault e at_) v) (hq0 : w.cell? ⟨q, 0, none⟩ = some (.int .i64 e)) (hq1 : w.cell? ⟨q, 1, none⟩ = some (.bool false)) (hqf : w.frozen? ⟨q, 1, none⟩ = false) :
    Calls Tryf.prog 18 #[v, .iface 55 (.pointer (some ⟨q, 0, none⟩))] w (HitW q w) := by
  have h25 := @run_callFunc_extern Tryf.prog 25 _ ReflectliteType.typeOf Tryf.func25 (by kernel_rfl) (by kernel_rfl) (by kernel_rfl) (by kernel_rfl)
  have h66 : ∀ w1, (callFunc 66 #[.agg #[.pointer (some ⟨1, 55, none⟩)]]).run Tryf.prog w1 = .ok (.value (.bool true)) w1 := fun w1 => by kernel_rfl
  have tT := typeOf_pwanted
  have mR := method_Comparable
  have HC := Lib.hid (isl_yes L e at_ q v w h hq0 hq1 hqf)
  obtain ⟨T, x, rfl⟩ := h.iface
  clear h
  go_enter Tryf.func18, Tryf.ntmps18
  go_wp2_with (go_at_call 26; refine (HC.out).mono ?_; rintro y w' hpost; replace hpost := Lib.hid hpost; obtain ⟨bo, rfl⟩ : ∃ bo, y = .returned (.bool bo) := ⟨_, hpost.out.1⟩)
  go_ret
  exact hpost.out


set_option maxHeartbeats 2000000 in
set_option maxRecDepth 100000 in
theorem is_no (L : List Lay) (e e' at_ : Int) (q : Nat) (v : Value) (w : World) (h : Ch w L (.fault e at_) v) (hne : e' ≠ e) (hq0 : w.cell? ⟨q, 0, none⟩ = some (.int .i64 e')) :
    Calls Tryf.prog 18 #[v, .iface 55 (.pointer (some ⟨q, 0, none⟩))] w (Miss w) := by
  have h25 := @run_callFunc_extern Tryf.prog 25 _ ReflectliteType.typeOf Tryf.func25 (by kernel_rfl) (by kernel_rfl) (by kernel_rfl) (by kernel_rfl)
  have h66 : ∀ w1, (callFunc 66 #[.agg #[.pointer (some ⟨1, 55, none⟩)]]).run Tryf.prog w1 = .ok (.value (.bool true)) w1 := fun w1 => by kernel_rfl
  have tT := typeOf_pwanted
  have mR := method_Comparable
  have HC := Lib.hid (isl_no L e e' at_ q v w h hne hq0)
  obtain ⟨T, x, rfl⟩ := h.iface
  clear h
  go_enter Tryf.func18, Tryf.ntmps18
  go_wp2_with (go_at_call 26; refine (HC.out).mono ?_; rintro y w' hpost; replace hpost := Lib.hid hpost; obtain ⟨bo, rfl⟩ : ∃ bo, y = .returned (.bool bo) := ⟨_, hpost.out.1⟩)
  go_ret
  exact hpost.out


set_option maxHeartbeats 2000000 in
set_option maxRecDepth 100000 in
theorem is_other (L : List Lay) (q : Nat) (v : Value) (w : World) (h : Ch w L (.other) v)  :
    Calls Tryf.prog 18 #[v, .iface 55 (.pointer (some ⟨q, 0, none⟩))] w (Miss w) := by
  have h25 := @run_callFunc_extern Tryf.prog 25 _ ReflectliteType.typeOf Tryf.func25 (by kernel_rfl) (by kernel_rfl) (by kernel_rfl) (by kernel_rfl)
  have h66 : ∀ w1, (callFunc 66 #[.agg #[.pointer (some ⟨1, 55, none⟩)]]).run Tryf.prog w1 = .ok (.value (.bool true)) w1 := fun w1 => by kernel_rfl
  have tT := typeOf_pwanted
  have mR := method_Comparable
  have HC := Lib.hid (isl_other L q v w h)
  obtain ⟨T, x, rfl⟩ := h.iface
  clear h
  go_enter Tryf.func18, Tryf.ntmps18
  go_wp2_with (go_at_call 26; refine (HC.out).mono ?_; rintro y w' hpost; replace hpost := Lib.hid hpost; obtain ⟨bo, rfl⟩ : ∃ bo, y = .returned (.bool bo) := ⟨_, hpost.out.1⟩)
  go_ret
  exact hpost.out


set_option maxHeartbeats 2000000 in
set_option maxRecDepth 100000 in
theorem is_errno (L : List Lay) (e at_ : Int) (v : Value) (w : World) (h : Ch w L (.fault e at_) v)  :
    Calls Tryf.prog 18 #[v, .iface 22 (.int .i64 e)] w (Yes w) := by
  have h25 := @run_callFunc_extern Tryf.prog 25 _ ReflectliteType.typeOf Tryf.func25 (by kernel_rfl) (by kernel_rfl) (by kernel_rfl) (by kernel_rfl)
  have h66 : ∀ w1, (callFunc 66 #[.agg #[.pointer (some ⟨1, 22, none⟩)]]).run Tryf.prog w1 = .ok (.value (.bool true)) w1 := fun w1 => by kernel_rfl
  have tT := typeOf_errno
  have mR := method_Comparable
  have HC := Lib.hid (isl_errno L e at_ v w h)
  obtain ⟨T, x, rfl⟩ := h.iface
  clear h
  go_enter Tryf.func18, Tryf.ntmps18
  go_wp2_with (go_at_call 26; refine (HC.out).mono ?_; rintro y w' hpost; replace hpost := Lib.hid hpost; obtain ⟨bo, rfl⟩ : ∃ bo, y = .returned (.bool bo) := ⟨_, hpost.out.1⟩)
  go_ret
  exact hpost.out


theorem as_nil (x : Value) (w : World) : Calls Tryf.prog 22 #[.nilIface, x] w fun e w' => e = .returned (.bool false) ∧ w = w' := by
  go_enter Tryf.func22, Tryf.ntmps22
  go_wp2
  go_ret
  exact ⟨rfl, rfl⟩

/-! ### the deferred functions that recover: nothing to recover -/

theorem idle_inner (w : World) : CallsD Tryf.prog 27 #[] .returning w fun e u' w' => e = .returned (.tuple #[]) ∧ u' = .returning ∧ w' = w := by
  refine callsD_of_wpS Tryf.func27 rfl fun c₀ cs hu => ?_
  apply wpS_region
  simp [wpOpsS, go_sem, recoverD, hu, Tryf.ntmps27, bodyPostS, results, Tryf.results27]
  cases c₀
  simp_all

theorem idle_name (w : World) : CallsD Tryf.prog 21 #[] .returning w fun e u' w' => e = .returned (.tuple #[]) ∧ u' = .returning ∧ w' = w := by
  refine callsD_of_wpS Tryf.func21 rfl fun c₀ cs hu => ?_
  apply wpS_region
  simp [wpOpsS, go_sem, recoverD, hu, Tryf.ntmps21, bodyPostS, results, Tryf.results21]
  cases c₀
  simp_all

theorem idle_is (w : World) : CallsD Tryf.prog 23 #[] .returning w fun e u' w' => e = .returned (.tuple #[]) ∧ u' = .returning ∧ w' = w := by
  refine callsD_of_wpS Tryf.func23 rfl fun c₀ cs hu => ?_
  apply wpS_region
  simp [wpOpsS, go_sem, recoverD, hu, Tryf.ntmps23, bodyPostS, results, Tryf.results23]
  cases c₀
  simp_all


/-- What lies at t behind a hit: the error's number and place; no block before t is written. -/
theorem HitF.at {t : Nat} {e at_ : Int} {w w' : World} {x : Ending} {o0 o1 : Value} (h : HitF t e at_ w x w') (h0 : w.cell? ⟨t, 0, none⟩ = some o0) (h1 : w.cell? ⟨t, 1, none⟩ = some o1) :
    w'.cell? ⟨t, 0, none⟩ = some (.int .i64 e) ∧ w'.cell? ⟨t, 1, none⟩ = some (.int .i64 at_) ∧ (∀ o, w'.frozen? ⟨t, o, none⟩ = w.frozen? ⟨t, o, none⟩) ∧ Below t w w' := by
  obtain ⟨_, w1, o, hb, rfl⟩ := h
  have ht := lt_of_cell h0
  have k0 : w1.cell? ⟨t, 0, none⟩ = some o0 := by rw [hb.cell (p := ⟨t, 0, none⟩) ht]; exact h0
  have k1 : w1.cell? ⟨t, 1, none⟩ = some o1 := by rw [hb.cell (p := ⟨t, 1, none⟩) ht]; exact h1
  have hs : t < w1.heap.size := lt_of_cell k0
  have s1 : (w1.setCell ⟨t, 0, none⟩ (.int .i64 e)).cell? ⟨t, 1, none⟩ = some o1 := by rw [World.cell?_setCell_other _ _ _ _ (by simp)]; exact k1
  have b1 : Below t w ((w1.setCell ⟨t, 0, none⟩ (.int .i64 e)).setCell ⟨t, 1, none⟩ (.int .i64 at_)) := ((hb.mono (Nat.le_of_lt ht)).setCell (Nat.le_refl _) _).setCell (Nat.le_refl _) _
  have hs2 : t < ((w1.setCell ⟨t, 0, none⟩ (.int .i64 e)).setCell ⟨t, 1, none⟩ (.int .i64 at_)).heap.size := lt_of_cell (World.cell?_setCell_same _ _ _ s1)
  refine ⟨?_, ?_, ?_, b1.alloc (Nat.le_of_lt hs2) _⟩
  · rw [World.cell?_alloc_lt _ _ ⟨t, 0, none⟩ hs2, World.cell?_setCell_other _ _ _ _ (by simp)]
    exact World.cell?_setCell_same _ _ _ k0
  · rw [World.cell?_alloc_lt _ _ ⟨t, 1, none⟩ hs2]
    exact World.cell?_setCell_same _ _ _ s1
  · intro i
    rw [World.frozen?_alloc_old _ _ ⟨t, i, none⟩ (Nat.ne_of_lt hs2), World.frozen?_setCell, World.frozen?_setCell]
    exact hb.frozen (p := ⟨t, i, none⟩) ht


end Go.Proofs.YtoolmokcbdkhoaaFmt.Fa
