/-
  Package fault's functions on a chain: inner, Code, At, Name, Is; and what New and In make. Conditions: errors' own variable for the type error holds what the program's text lays there.
-/
import Derived.Test.YtoolmokcbdkhoaaFmtFaultFns
namespace Go.Proofs.YtoolmokcbdkhoaaFmt.Fa
open Go.RowKit Go.Extern.Stop Go.Stop Go.Extern Go.Kit Go.Lib

set_option maxHeartbeats 2000000 in
set_option maxRecDepth 100000 in
theorem inner_hit (L : List Lay) (e at_ : Int) (v : Value) (w : World) (hg : ErrType w) (h : Ch w L (.fault e at_) v) (hne : (e != 0) = true) :
    Calls Tryf.prog 20 #[v] w fun x w' => x = .returned (.tuple #[.agg #[.int .i64 e, .int .i64 at_], .bool true]) ∧ Below w.heap.size w w' := by
  have hmf : ∀ (fn : Fn) (first cap : Array Value) (w : World), (Instr.makeFunc fn first cap).run Tryf.prog w = .ok (.func fn first cap) w := fun _ _ _ _ => rfl
  have hb1 : Below w.heap.size w (w.alloc (.cells #[.int .i64 0, .int .i64 0] 47)) := (Below.refl _ _).alloc (Nat.le_refl _) _
  have T0 := Lib.hid (show (w.alloc (.cells #[.int .i64 0, .int .i64 0] 47)).cell? ⟨w.heap.size, 0, none⟩ = some (.int .i64 0) by simp)
  have T1 := Lib.hid (show (w.alloc (.cells #[.int .i64 0, .int .i64 0] 47)).cell? ⟨w.heap.size, 1, none⟩ = some (.int .i64 0) by simp)
  have F0 := Lib.hid (show ∀ o, (w.alloc (.cells #[.int .i64 0, .int .i64 0] 47)).frozen? ⟨w.heap.size, o, none⟩ = false from fun o => by simp)
  have HG := Lib.hid (hg.keep hb1)
  have HC := Lib.hid (h.keep hb1)
  have HB := Lib.hid hb1
  clear hg h hb1
  go_enter_defers Tryf.func20, Tryf.ntmps20
  go_wp2_with (go_at_call 22; go_loud (refine (as_fault_hit L e at_ (.int .i64 0) (.int .i64 0) v w.heap.size _ HG.out HC.out T0.out T1.out (F0.out 0) (F0.out 1)).mono ?_; rintro x w1 hx; have hy := hx.at T0.out T1.out; have hz := hx.1; clear hx; subst hz; obtain ⟨c0, c1, cf, cb⟩ := hy; have f0 := (cf 0).trans (F0.out 0); have f1 := (cf 1).trans (F0.out 1); have CB := Lib.hid cb; clear cb cf))
  refine leaves_cons (f := 27) (args := #[]) (by simp) (by simp [go_sem]) ?_
  refine (idle_inner _).mono ?_
  rintro x u' w'' ⟨rfl, rfl, rfl⟩
  have r0 := World.cell?_setCell_same w1 ⟨w.heap.size, 0, none⟩ (.int .i64 e) c0
  have r1 := World.cell?_setCell_same (w1.setCell ⟨w.heap.size, 0, none⟩ (.int .i64 e)) ⟨w.heap.size, 1, none⟩ (.int .i64 at_) (u := .int .i64 at_) (by rw [World.cell?_setCell_other _ _ _ _ (by simp)]; exact c1)
  have hb := ((HB.out.trans CB.out).setCell (p := ⟨w.heap.size, 0, none⟩) (Nat.le_refl _) (.int .i64 e)).setCell (p := ⟨w.heap.size, 1, none⟩) (Nat.le_refl _) (.int .i64 at_)
  simp [Leaves, settle, results, Tryf.results20, go_sem, r0, r1, hb]

/-- inner on an error that wraps none made by New. -/
def InnerMiss (w : World) (x : Ending) (w' : World) : Prop := x = .returned (.tuple #[.agg #[.int .i64 0, .int .i64 0], .bool false]) ∧ Below w.heap.size w w'

set_option maxHeartbeats 2000000 in
set_option maxRecDepth 100000 in
theorem inner_miss (v : Value) (w : World) (hA : Hid (∀ t, Calls Tryf.prog 22 #[v, .iface 67 (.pointer (some ⟨t, 0, none⟩))] (w.alloc (.cells #[.int .i64 0, .int .i64 0] 47)) (Miss (w.alloc (.cells #[.int .i64 0, .int .i64 0] 47))))) :
    Calls Tryf.prog 20 #[v] w (InnerMiss w) := by
  have hmf : ∀ (fn : Fn) (first cap : Array Value) (w : World), (Instr.makeFunc fn first cap).run Tryf.prog w = .ok (.func fn first cap) w := fun _ _ _ _ => rfl
  have hb1 : Below w.heap.size w (w.alloc (.cells #[.int .i64 0, .int .i64 0] 47)) := (Below.refl _ _).alloc (Nat.le_refl _) _
  have T0 := Lib.hid (show (w.alloc (.cells #[.int .i64 0, .int .i64 0] 47)).cell? ⟨w.heap.size, 0, none⟩ = some (.int .i64 0) by simp)
  have T1 := Lib.hid (show (w.alloc (.cells #[.int .i64 0, .int .i64 0] 47)).cell? ⟨w.heap.size, 1, none⟩ = some (.int .i64 0) by simp)
  have F0 := Lib.hid (show ∀ o, (w.alloc (.cells #[.int .i64 0, .int .i64 0] 47)).frozen? ⟨w.heap.size, o, none⟩ = false from fun o => by simp)
  have HB := Lib.hid hb1
  clear hb1
  go_enter_defers Tryf.func20, Tryf.ntmps20
  go_wp2_with (go_at_call 22; go_loud (refine (hA.out _).mono ?_; rintro x w1 hx; obtain ⟨rfl, hb⟩ := hx; have c0 : w1.cell? ⟨w.heap.size, 0, none⟩ = some (.int .i64 0) := (hb.cell (p := ⟨w.heap.size, 0, none⟩) (by simp)).trans T0.out; have c1 : w1.cell? ⟨w.heap.size, 1, none⟩ = some (.int .i64 0) := (hb.cell (p := ⟨w.heap.size, 1, none⟩) (by simp)).trans T1.out; have f0 := (hb.frozen (p := ⟨w.heap.size, 0, none⟩) (by simp)).trans (F0.out 0); have f1 := (hb.frozen (p := ⟨w.heap.size, 1, none⟩) (by simp)).trans (F0.out 1); have CB := Lib.hid hb; clear hb))
  refine leaves_cons (f := 27) (args := #[]) (by simp) (by simp [go_sem]) ?_
  refine (idle_inner _).mono ?_
  rintro x u' w'' ⟨rfl, rfl, rfl⟩
  have r0 := World.cell?_setCell_same w1 ⟨w.heap.size, 0, none⟩ (.int .i64 0) c0
  have r1 := World.cell?_setCell_same (w1.setCell ⟨w.heap.size, 0, none⟩ (.int .i64 0)) ⟨w.heap.size, 1, none⟩ (.int .i64 0) (u := .int .i64 0) (by rw [World.cell?_setCell_other _ _ _ _ (by simp)]; exact c1)
  have hb := ((step HB.out CB.out).setCell (p := ⟨w.heap.size, 0, none⟩) (Nat.le_refl _) (.int .i64 0)).setCell (p := ⟨w.heap.size, 1, none⟩) (Nat.le_refl _) (.int .i64 0)
  simp [Leaves, settle, results, Tryf.results20, go_sem, r0, r1, hb, InnerMiss]

theorem inner_other (L : List Lay) (v : Value) (w : World) (hg : ErrType w) (h : Ch w L .other v) : Calls Tryf.prog 20 #[v] w (InnerMiss w) := by
  have hb1 : Below w.heap.size w (w.alloc (.cells #[.int .i64 0, .int .i64 0] 47)) := (Below.refl _ _).alloc (Nat.le_refl _) _
  exact inner_miss v w (Lib.hid fun t => as_fault_miss L v t _ (hg.keep hb1) (h.keep hb1))

theorem inner_nil (w : World) : Calls Tryf.prog 20 #[.nilIface] w (InnerMiss w) :=
  inner_miss _ w (Lib.hid fun t => (as_nil _ _).mono fun e w' ⟨h1, h2⟩ => ⟨h1, by rw [← h2]; exact Below.refl _ _⟩)

/-! ### Code, At -/

/-- A value comes back; nothing that was there is written. -/
def Gives (v : Value) (w : World) (x : Ending) (w' : World) : Prop := x = .returned v ∧ Below w.heap.size w w'

set_option maxHeartbeats 2000000 in
set_option maxRecDepth 100000 in
theorem code_hit (L : List Lay) (e at_ : Int) (v : Value) (w : World) (hg : ErrType w) (h : Ch w L (.fault e at_) v) (hne : (e != 0) = true) :
    Calls Tryf.prog 7 #[v] w (Gives (.int .i64 e) w) := by
  have HA := Lib.hid (inner_hit L e at_ v w hg h hne)
  obtain ⟨T, x, rfl⟩ := h.iface
  clear hg h hne
  go_enter Tryf.func7, Tryf.ntmps7
  go_wp2_with (go_at_call 20; go_loud (refine HA.out.mono ?_; rintro x w1 ⟨rfl, hb⟩; have HB := Lib.hid hb; clear hb))
  go_ret
  exact ⟨rfl, HB.out.alloc HB.out.size _⟩

set_option maxHeartbeats 2000000 in
set_option maxRecDepth 100000 in
theorem code_other (L : List Lay) (v : Value) (w : World) (hg : ErrType w) (h : Ch w L .other v) :
    Calls Tryf.prog 7 #[v] w (Gives (.int .i64 1) w) := by
  have HA := Lib.hid (inner_other L v w hg h)
  obtain ⟨T, x, rfl⟩ := h.iface
  clear hg h
  go_enter Tryf.func7, Tryf.ntmps7
  go_wp2_with (go_at_call 20; go_loud (refine HA.out.mono ?_; rintro x w1 ⟨rfl, hb⟩; have HB := Lib.hid hb; clear hb))
  go_ret
  exact ⟨rfl, HB.out.alloc HB.out.size _⟩

theorem code_nil (w : World) : Calls Tryf.prog 7 #[.nilIface] w (Gives (.int .i64 0) w) := by
  go_enter Tryf.func7, Tryf.ntmps7
  go_wp2
  go_ret
  exact ⟨rfl, Below.refl _ _⟩

set_option maxHeartbeats 2000000 in
set_option maxRecDepth 100000 in
theorem at_hit (L : List Lay) (e at_ : Int) (v : Value) (w : World) (hg : ErrType w) (h : Ch w L (.fault e at_) v) (hne : (e != 0) = true) :
    Calls Tryf.prog 9 #[v] w (Gives (.int .i64 at_) w) := by
  have HA := Lib.hid (inner_hit L e at_ v w hg h hne)
  clear hg h hne
  go_enter Tryf.func9, Tryf.ntmps9
  go_wp2_with (go_at_call 20; go_loud (refine HA.out.mono ?_; rintro x w1 ⟨rfl, hb⟩; have HB := Lib.hid hb; clear hb))
  go_ret
  exact ⟨rfl, HB.out.alloc HB.out.size _⟩

set_option maxHeartbeats 2000000 in
set_option maxRecDepth 100000 in
theorem at_miss (v : Value) (w : World) (HA : Hid (Calls Tryf.prog 20 #[v] w (InnerMiss w))) :
    Calls Tryf.prog 9 #[v] w (Gives (.int .i64 (-1)) w) := by
  go_enter Tryf.func9, Tryf.ntmps9
  go_wp2_with (go_at_call 20; go_loud (refine HA.out.mono ?_; rintro x w1 ⟨rfl, hb⟩; have HB := Lib.hid hb; clear hb))
  go_ret
  exact ⟨rfl, HB.out.alloc HB.out.size _⟩


end Go.Proofs.YtoolmokcbdkhoaaFmt.Fa
