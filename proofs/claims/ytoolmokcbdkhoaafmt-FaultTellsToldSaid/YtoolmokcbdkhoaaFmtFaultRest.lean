/-
  Package fault's Name and Is on a chain; and what New, In and errors.New make. Conditions: errors' own variable for the type error holds what the program's text lays there.
-/
import Derived.Test.YtoolmokcbdkhoaaFmtFaultInner
namespace Go.Proofs.YtoolmokcbdkhoaaFmt.Fa
open Go.RowKit Go.Extern.Stop Go.Stop Go.Extern Go.Kit Go.Lib

/-- What lies at t behind a hit: a pointer to the name's block. -/
theorem HitN.at {t : Nat} {s : ByteArray} {w w' : World} {x : Ending} {o0 : Value} (h : HitN t s w x w') (h0 : w.cell? ⟨t, 0, none⟩ = some o0) :
    ∃ p, w'.cell? ⟨t, 0, none⟩ = some (.pointer (some ⟨p, 0, none⟩)) ∧ w'.cell? ⟨p, 0, none⟩ = some (.string s) ∧ Below t w w' := by
  obtain ⟨_, w1, o, p, hb, rfl, hp, hne⟩ := h
  have ht := lt_of_cell h0
  have k0 : w1.cell? ⟨t, 0, none⟩ = some o0 := by rw [hb.cell (p := ⟨t, 0, none⟩) ht]; exact h0
  have s0 := World.cell?_setCell_same w1 ⟨t, 0, none⟩ (.pointer (some ⟨p, 0, none⟩)) k0
  have s1 : (w1.setCell ⟨t, 0, none⟩ (.pointer (some ⟨p, 0, none⟩))).cell? ⟨p, 0, none⟩ = some (.string s) := by rw [World.cell?_setCell_other _ _ _ _ (fun e => hne (congrArg Addr.block e).symm)]; exact hp
  have b1 : Below t w (w1.setCell ⟨t, 0, none⟩ (.pointer (some ⟨p, 0, none⟩))) := (hb.mono (Nat.le_of_lt ht)).setCell (Nat.le_refl _) _
  refine ⟨p, ?_, ?_, b1.alloc (Nat.le_of_lt (lt_of_cell s0)) _⟩
  · rw [World.cell?_alloc_lt _ _ ⟨t, 0, none⟩ (lt_of_cell s0)]; exact s0
  · rw [World.cell?_alloc_lt _ _ ⟨p, 0, none⟩ (lt_of_cell s1)]; exact s1

set_option maxHeartbeats 2000000 in
set_option maxRecDepth 100000 in
theorem name_hit (L : List Lay) (b : Base) (s : ByteArray) (v : Value) (w : World) (hg : ErrType w) (h : Ch w L b v) (ho : outer L = some s) :
    Calls Tryf.prog 11 #[v] w (Gives (.string s) w) := by
  have hmf : ∀ (fn : Fn) (first cap : Array Value) (w : World), (Instr.makeFunc fn first cap).run Tryf.prog w = .ok (.func fn first cap) w := fun _ _ _ _ => rfl
  have hb1 : Below w.heap.size w (w.alloc (.cells #[.pointer Option.none] 50)) := (Below.refl _ _).alloc (Nat.le_refl _) _
  have T0 := Lib.hid (show (w.alloc (.cells #[.pointer Option.none] 50)).cell? ⟨w.heap.size, 0, none⟩ = some (.pointer Option.none) by simp)
  have F0 := Lib.hid (show (w.alloc (.cells #[.pointer Option.none] 50)).frozen? ⟨w.heap.size, 0, none⟩ = false by simp)
  have HG := Lib.hid (hg.keep hb1)
  have HC := Lib.hid (h.keep hb1)
  have HB := Lib.hid hb1
  have HO := Lib.hid ho
  clear hg h hb1 ho
  go_enter_defers Tryf.func11, Tryf.ntmps11
  go_wp2_with (go_at_call 22; go_loud (refine (as_named_hit L b s v w.heap.size _ HG.out HC.out HO.out T0.out F0.out).mono ?_; rintro x w1 hx; have hy := hx.at T0.out; have hz := hx.1; clear hx; subst hz; obtain ⟨p, c0, c1, cb⟩ := hy; have CB := Lib.hid cb; clear cb))
  refine leaves_cons (f := 21) (args := #[]) (by simp) (by simp [go_sem]) ?_
  refine (idle_name _).mono ?_
  rintro x u' w'' ⟨rfl, rfl, rfl⟩
  have hb := HB.out.trans CB.out
  simp [Leaves, settle, results, Tryf.results11, go_sem, hb, Gives]

set_option maxHeartbeats 2000000 in
set_option maxRecDepth 100000 in
theorem name_none (v : Value) (w : World) (HA : Hid (∀ t, Calls Tryf.prog 22 #[v, .iface 52 (.pointer (some ⟨t, 0, none⟩))] (w.alloc (.cells #[.pointer Option.none] 50)) (Miss (w.alloc (.cells #[.pointer Option.none] 50))))) :
    Calls Tryf.prog 11 #[v] w (Gives (.string ⟨#[]⟩) w) := by
  have hmf : ∀ (fn : Fn) (first cap : Array Value) (w : World), (Instr.makeFunc fn first cap).run Tryf.prog w = .ok (.func fn first cap) w := fun _ _ _ _ => rfl
  have hb1 : Below w.heap.size w (w.alloc (.cells #[.pointer Option.none] 50)) := (Below.refl _ _).alloc (Nat.le_refl _) _
  have HB := Lib.hid hb1
  clear hb1
  go_enter_defers Tryf.func11, Tryf.ntmps11
  go_wp2_with (go_at_call 22; go_loud (refine (HA.out _).mono ?_; rintro x w1 ⟨rfl, hb⟩; have CB := Lib.hid hb; clear hb))
  refine leaves_cons (f := 21) (args := #[]) (by simp) (by simp [go_sem]) ?_
  refine (idle_name _).mono ?_
  rintro x u' w'' ⟨rfl, rfl, rfl⟩
  have hb := step HB.out CB.out
  simp [Leaves, settle, results, Tryf.results11, go_sem, hb, Gives]

theorem name_miss (L : List Lay) (b : Base) (v : Value) (w : World) (hg : ErrType w) (h : Ch w L b v) (ho : outer L = Option.none) : Calls Tryf.prog 11 #[v] w (Gives (.string ⟨#[]⟩) w) := by
  have hb1 : Below w.heap.size w (w.alloc (.cells #[.pointer Option.none] 50)) := (Below.refl _ _).alloc (Nat.le_refl _) _
  exact name_none v w (Lib.hid fun t => as_named_miss L b v t _ (hg.keep hb1) (h.keep hb1) ho)

theorem name_nil (w : World) : Calls Tryf.prog 11 #[.nilIface] w (Gives (.string ⟨#[]⟩) w) :=
  name_none _ w (Lib.hid fun t => (as_nil _ _).mono fun e w' ⟨h1, h2⟩ => ⟨h1, by rw [← h2]; exact Below.refl _ _⟩)

/-! ### Is -/

theorem isf_nil (e : Int) (w : World) : Calls Tryf.prog 13 #[.nilIface, .int .i64 e] w (Gives (.bool (e == 0)) w) := by
  have hmf : ∀ (fn : Fn) (first cap : Array Value) (w : World), (Instr.makeFunc fn first cap).run Tryf.prog w = .ok (.func fn first cap) w := fun _ _ _ _ => rfl
  go_enter_defers Tryf.func13, Tryf.ntmps13
  go_wp2
  simp [bodyPostD, Leaves, results, Tryf.results13, go_sem, Gives, Below.refl]

set_option maxHeartbeats 2000000 in
set_option maxRecDepth 100000 in
theorem isf_yes (L : List Lay) (e at_ : Int) (v : Value) (w : World) (h : Ch w L (.fault e at_) v) :
    Calls Tryf.prog 13 #[v, .int .i64 e] w (Gives (.bool true) w) := by
  have hmf : ∀ (fn : Fn) (first cap : Array Value) (w : World), (Instr.makeFunc fn first cap).run Tryf.prog w = .ok (.func fn first cap) w := fun _ _ _ _ => rfl
  have hb1 : Below w.heap.size w (w.alloc (.cells #[.int .i64 e, .bool false] 57)) := (Below.refl _ _).alloc (Nat.le_refl _) _
  have T0 := Lib.hid (show (w.alloc (.cells #[.int .i64 e, .bool false] 57)).cell? ⟨w.heap.size, 0, none⟩ = some (.int .i64 e) by simp)
  have T1 := Lib.hid (show (w.alloc (.cells #[.int .i64 e, .bool false] 57)).cell? ⟨w.heap.size, 1, none⟩ = some (.bool false) by simp)
  have F1 := Lib.hid (show (w.alloc (.cells #[.int .i64 e, .bool false] 57)).frozen? ⟨w.heap.size, 1, none⟩ = false by simp)
  have HC := Lib.hid (h.keep hb1)
  have HB := Lib.hid hb1
  obtain ⟨T, x, rfl⟩ := h.iface
  clear h hb1
  go_enter_defers Tryf.func13, Tryf.ntmps13
  go_wp2_with (go_at_call 18; go_loud (refine (is_yes L e at_ w.heap.size _ _ HC.out T0.out T1.out F1.out).mono ?_; rintro x w1 ⟨rfl, c1, hb⟩; have CB := Lib.hid hb; clear hb))
  refine leaves_cons (f := 23) (args := #[]) (by simp) (by simp [go_sem]) ?_
  refine (idle_is _).mono ?_
  rintro x u' w'' ⟨rfl, rfl, rfl⟩
  have hb := HB.out.trans CB.out
  simp [Leaves, settle, results, Tryf.results13, go_sem, hb, Gives]

set_option maxHeartbeats 2000000 in
set_option maxRecDepth 100000 in
theorem isf_miss (T : TypeId) (x : Value) (e : Int) (w : World) (HA : Hid (Calls Tryf.prog 18 #[.iface T x, .iface 55 (.pointer (some ⟨w.heap.size, 0, none⟩))] (w.alloc (.cells #[.int .i64 e, .bool false] 57)) (Miss (w.alloc (.cells #[.int .i64 e, .bool false] 57))))) :
    Calls Tryf.prog 13 #[.iface T x, .int .i64 e] w (Gives (.bool false) w) := by
  have hmf : ∀ (fn : Fn) (first cap : Array Value) (w : World), (Instr.makeFunc fn first cap).run Tryf.prog w = .ok (.func fn first cap) w := fun _ _ _ _ => rfl
  have hb1 : Below w.heap.size w (w.alloc (.cells #[.int .i64 e, .bool false] 57)) := (Below.refl _ _).alloc (Nat.le_refl _) _
  have HB := Lib.hid hb1
  clear hb1
  go_enter_defers Tryf.func13, Tryf.ntmps13
  go_wp2_with (go_at_call 18; go_loud (refine (HA.out).mono ?_; rintro x w1 ⟨rfl, hb⟩; have CB := Lib.hid hb; clear hb))
  refine leaves_cons (f := 23) (args := #[]) (by simp) (by simp [go_sem]) ?_
  refine (idle_is _).mono ?_
  rintro x u' w'' ⟨rfl, rfl, rfl⟩
  have hb := step HB.out CB.out
  simp [Leaves, settle, results, Tryf.results13, go_sem, hb, Gives]

theorem isf_fault (L : List Lay) (e e' at_ : Int) (v : Value) (w : World) (h : Ch w L (.fault e at_) v) : Calls Tryf.prog 13 #[v, .int .i64 e'] w (Gives (.bool (e == e')) w) := by
  by_cases he : e = e'
  · subst he
    rw [beq_self_eq_true]
    exact isf_yes L e at_ v w h
  · rw [show (e == e') = false by simpa using he]
    have hb1 : Below w.heap.size w (w.alloc (.cells #[.int .i64 e', .bool false] 57)) := (Below.refl _ _).alloc (Nat.le_refl _) _
    obtain ⟨T, x, rfl⟩ := h.iface
    exact isf_miss T x e' w (Lib.hid (is_no L e e' at_ _ _ _ (h.keep hb1) (fun k => he k.symm) (by simp)))

theorem isf_other (L : List Lay) (e : Int) (v : Value) (w : World) (h : Ch w L .other v) : Calls Tryf.prog 13 #[v, .int .i64 e] w (Gives (.bool false) w) := by
  have hb1 : Below w.heap.size w (w.alloc (.cells #[.int .i64 e, .bool false] 57)) := (Below.refl _ _).alloc (Nat.le_refl _) _
  obtain ⟨T, x, rfl⟩ := h.iface
  exact isf_miss T x e w (Lib.hid (is_other L _ _ _ (h.keep hb1)))

/-! ### what is made -/

theorem new_ok (at_ : Int) (w : World) : Calls Tryf.prog 15 #[.int .i64 0, .int .i64 at_] w fun x w' => x = .returned .nilIface ∧ w = w' := by
  go_enter Tryf.func15, Tryf.ntmps15
  go_wp2
  go_ret
  exact ⟨rfl, rfl⟩

theorem new_fault (e at_ : Int) (w : World) (hne : ¬ e = 0) : Calls Tryf.prog 15 #[.int .i64 e, .int .i64 at_] w fun x w' => x = .returned (.iface 47 (.agg #[.int .i64 e, .int .i64 at_])) ∧ w = w' := by
  go_enter Tryf.func15, Tryf.ntmps15
  go_wp2
  go_ret
  exact ⟨rfl, rfl⟩

theorem in_nil (s : ByteArray) (w : World) : Calls Tryf.prog 16 #[.string s, .nilIface] w fun x w' => x = .returned .nilIface ∧ w = w' := by
  go_enter Tryf.func16, Tryf.ntmps16
  go_wp2
  go_ret
  exact ⟨rfl, rfl⟩

/-- A chain comes back; nothing that was there is written. -/
def Chain (L : List Lay) (b : Base) (w : World) (x : Ending) (w' : World) : Prop := ∃ v, x = .returned v ∧ Ch w' L b v ∧ Below w.heap.size w w'

theorem in_chain (s : ByteArray) (L : List Lay) (b : Base) (v : Value) (w : World) (hs : s.size ≤ 140737488355328) (h : Ch w L b v) :
    Calls Tryf.prog 16 #[.string s, v] w (Chain (.named s :: L) b w) := by
  have hb1 : Below w.heap.size w (w.alloc (.cells #[.string s, v] 54)) := (Below.refl _ _).alloc (Nat.le_refl _) _
  have HB := Lib.hid hb1
  have HC := Lib.hid (h.keep hb1)
  have HS := Lib.hid hs
  obtain ⟨T, x, rfl⟩ := h.iface
  clear h hb1 hs
  go_enter Tryf.func16, Tryf.ntmps16
  go_wp2
  go_ret
  exact ⟨_, rfl, .named w.heap.size s _ L b (by simp) (by simp) HS.out HC.out, HB.out⟩

theorem other_new (w : World) : Calls Tryf.prog 19 #[.string ⟨#[111, 116, 104, 101, 114]⟩] w (Chain [] .other w) := by
  go_enter Tryf.func19, Tryf.ntmps19
  go_wp2
  go_ret
  exact ⟨_, rfl, .other w.heap.size ⟨#[111, 116, 104, 101, 114]⟩ (by simp) (by decide), (Below.refl _ _).alloc (Nat.le_refl _) _⟩


end Go.Proofs.YtoolmokcbdkhoaaFmt.Fa
