/-
  The walk of the statements' own function made, where there are no names, and where no error is made. No conditions.
-/
import Derived.Test.YtoolmokcbdkhoaaFmtFaultAnswers
import Derived.Deep.DeepCutAuto
import Derived.BigRegion
namespace Go.Proofs.YtoolmokcbdkhoaaFmt.Fa
open Go.RowKit Go.Extern.Stop Go.Stop Go.Extern Go.Kit Go.Lib

set_option maxHeartbeats 8000000 in
set_option maxRecDepth 100000 in
theorem made_bare (e at_ : Int) (ot : Bool) (p0 : Option Addr) (c0 : Nat) (w : World) (hne : ot = false → ¬ e = 0) :
    Calls Tryf.prog 6 #[.int .i64 e, .int .i64 at_, .bool ot, .slice p0 0 c0] w (Made e at_ ot w) := by
  have HNE := Lib.hid hne
  clear hne
  go_enter Tryf.func6, Tryf.ntmps6
  go_upto_if 20 with (go_at_call 15; go_loud (refine (new_any e at_ _).mono ?_; rintro x w' ⟨rfl, rfl⟩))
  go_cut [11] (fun s11 wx => Ch wx [] (baseOf ot e at_) s11 ∧ Below (two e at_ ot w).heap.size (two e at_ ot w) wx)
  case first =>
    obtain h | h : ot = true ∨ ot = false := by cases ot <;> simp
    · subst h
      go_wp2_with (go_at_call 19; go_loud (refine (other_new _).mono ?_; rintro x wn ⟨v, rfl, hc, hb⟩; have HX := Lib.hid (And.intro hc hb); clear hc hb))
      go_meet
      case rel => exact HX.out
    · subst h
      have hv : newV e at_ = .iface 47 (.agg #[.int .i64 e, .int .i64 at_]) := by rw [newV, if_neg (HNE.out rfl)]
      go_wp2
      go_meet
      case rel => exact ⟨.fault e at_, Below.refl _ _⟩
  case rest =>
    obtain ⟨hc0, hb0⟩ := hcut
    have HC0 := Lib.hid hc0
    have HB0 := Lib.hid hb0
    clear hc0 hb0
    go_wp2
    go_loopg [11, 12] 0 (fun k v i wr => Inv 0 e at_ ot w k v i wr)
    case atStart =>
      exact ⟨0, [], .slice Option.none 0 0, Nat.zero_le _, rfl, rfl, rfl, start_kept _ _ _ _ _ _ _ HC0.out HB0.out, HB0.out.mono (by simp [two])⟩
    case round =>
      obtain ⟨j, L, sl, hj, hk, rfl, hL, hkept, hb⟩ := hrel
      obtain ⟨T, x, rfl⟩ := hkept.1.iface
      have HKP := Lib.hid hkept
      have HL := Lib.hid hL
      have HB := Lib.hid hb
      have hw2 : Below w.heap.size w (two e at_ ot w) := ((Below.refl _ _).alloc (Nat.le_refl _) _).alloc (by simp) _
      have HBW := Lib.hid (hw2.trans (hb.mono (Nat.le_succ _)))
      obtain rfl : j = 0 := by omega
      clear hk hkept hL hb hw2
      obtain ⟨hch, c0, c1, c2, c3, _, m, xs, ho, hxs, hlast, hmL, _⟩ := HKP.out
      have z0 : wr.cell? ⟨w.heap.size, 0, none⟩ = some (.int .i64 0) := (HB.out.cell (p := ⟨w.heap.size, 0, none⟩) (Nat.lt_succ_self _)).trans (by simp [two])
      have z1 : wr.cell? ⟨w.heap.size, 1, none⟩ = some (.int .i64 0) := (HB.out.cell (p := ⟨w.heap.size, 1, none⟩) (Nat.lt_succ_self _)).trans (by simp [two])
      have z2 : wr.cell? ⟨w.heap.size, 2, none⟩ = some (.slice Option.none 0 0) := (HB.out.cell (p := ⟨w.heap.size, 2, none⟩) (Nat.lt_succ_self _)).trans (by simp [two])
      have z3 : wr.cell? ⟨w.heap.size, 3, none⟩ = some (.bool false) := (HB.out.cell (p := ⟨w.heap.size, 3, none⟩) (Nat.lt_succ_self _)).trans (by simp [two])
      have y0 : wr.frozen? ⟨w.heap.size, 0, none⟩ = false := (HB.out.frozen (p := ⟨w.heap.size, 0, none⟩) (Nat.lt_succ_self _)).trans (by simp [two])
      have y1 : wr.frozen? ⟨w.heap.size, 1, none⟩ = false := (HB.out.frozen (p := ⟨w.heap.size, 1, none⟩) (Nat.lt_succ_self _)).trans (by simp [two])
      have y2 : wr.frozen? ⟨w.heap.size, 2, none⟩ = false := (HB.out.frozen (p := ⟨w.heap.size, 2, none⟩) (Nat.lt_succ_self _)).trans (by simp [two])
      have y3 : wr.frozen? ⟨w.heap.size, 3, none⟩ = false := (HB.out.frozen (p := ⟨w.heap.size, 3, none⟩) (Nat.lt_succ_self _)).trans (by simp [two])
      obtain ⟨pp, nn, cc, rfl⟩ : ∃ p n c, sl = .slice p n c := by
        rcases ho.2 with ⟨h, _⟩ | ⟨g, cp, _, h, _⟩
        · exact ⟨_, _, _, h⟩
        · exact ⟨_, _, _, h⟩
      have HE := Lib.hid (And.intro hch (And.intro ho (And.intro hxs (And.intro hlast hmL))))
      have HZ := Lib.hid z0
      clear hch ho hxs hlast hmL
      go_wp2_with fail
      go_region
      go_wp2
      obtain ⟨r0, r1, r2, r3⟩ := four_cells z0 z1 z2 z3 (.int .i64 e) (.int .i64 at_) (.slice pp nn cc) (.bool ot)
      have hfin := four_rest z0 HE.out.1 HE.out.2.1 e (.int .i64 at_) (.slice pp nn cc) (.bool ot) (by omega)
      have hbel := ((((HBW.out).setCell (p := ⟨w.heap.size, 0, none⟩) (Nat.le_refl _) (.int .i64 e)).setCell (p := ⟨w.heap.size, 1, none⟩) (Nat.le_refl _) (.int .i64 at_)).setCell (p := ⟨w.heap.size, 2, none⟩) (Nat.le_refl _) (.slice pp nn cc)).setCell (p := ⟨w.heap.size, 3, none⟩) (Nat.le_refl _) (.bool ot)
      generalize hwf : (((wr.setCell ⟨w.heap.size, 0, none⟩ (.int .i64 e)).setCell ⟨w.heap.size, 1, none⟩ (.int .i64 at_)).setCell ⟨w.heap.size, 2, none⟩ (.slice pp nn cc)).setCell ⟨w.heap.size, 3, none⟩ (.bool ot) = wf at r0 r1 r2 r3 hfin hbel ⊢
      clear hwf
      have HFIN := Lib.hid hfin
      have HBEL := Lib.hid hbel
      clear hfin hbel
      refine bodyPost_ret (v := .tuple #[.iface T x, .agg #[.int .i64 e, .int .i64 at_, .slice pp nn cc, .bool ot]]) ?_ rfl ?_
      · simp [results, Tryf.results6, go_sem, r0, r1, r2, r3]
      · exact ⟨_, L, _, m, xs, rfl, (HFIN.out.1).keep (Below.refl _ _).drew, ownsRow_below HFIN.out.2 (Below.refl _ _).drew, HE.out.2.2.1, HE.out.2.2.2.1, by have := HE.out.2.2.2.2; have := HL.out; omega, HBEL.out.drew⟩

/-- made where no error is made: none, and no names. -/
def MadeNone (at_ : Int) (w : World) (x : Ending) (w' : World) : Prop := x = .returned (.tuple #[.nilIface, .agg #[.int .i64 0, .int .i64 at_, .slice Option.none 0 0, .bool false]]) ∧ Below w.heap.size w w'

set_option maxHeartbeats 4000000 in
set_option maxRecDepth 100000 in
theorem made_none (at_ : Int) (p : Option Addr) (len c : Nat) (w : World) :
    Calls Tryf.prog 6 #[.int .i64 0, .int .i64 at_, .bool false, .slice p len c] w (MadeNone at_ w) := by
  by_cases hl : 0 < len
  · go_enter Tryf.func6, Tryf.ntmps6
    go_wp2_with (go_at_call 15; go_loud (refine (new_ok at_ _).mono ?_; rintro x w' ⟨rfl, rfl⟩))
    go_loopg [11, 12] 0 (fun _ v i wr => v = .nilIface ∧ i = .int .i64 0 ∧ wr = two 0 at_ false w)
    case atStart => exact ⟨rfl, rfl, rfl⟩
    case round =>
      obtain ⟨rfl, rfl, hw⟩ := hrel
      unfold two at hw
      subst hw
      go_wp2
      go_region
      go_wp2
      exact bodyPost_ret (v := .tuple #[.nilIface, .agg #[.int .i64 0, .int .i64 at_, .slice Option.none 0 0, .bool false]]) (by simp [results, Tryf.results6, go_sem]) rfl ⟨rfl, (((Below.refl _ _).alloc (Nat.le_refl _) _).alloc (by simp) _).drew⟩
  · go_enter Tryf.func6, Tryf.ntmps6
    go_wp2_with (go_at_call 15; go_loud (refine (new_ok at_ _).mono ?_; rintro x w' ⟨rfl, rfl⟩))
    go_loopg [11, 12] 0 (fun _ v i wr => v = .nilIface ∧ i = .int .i64 0 ∧ wr = two 0 at_ false w)
    case atStart => exact ⟨rfl, rfl, rfl⟩
    case round =>
      obtain ⟨rfl, rfl, hw⟩ := hrel
      unfold two at hw
      subst hw
      go_wp2
      go_region
      go_wp2
      exact bodyPost_ret (v := .tuple #[.nilIface, .agg #[.int .i64 0, .int .i64 at_, .slice Option.none 0 0, .bool false]]) (by simp [results, Tryf.results6, go_sem]) rfl ⟨rfl, (((Below.refl _ _).alloc (Nat.le_refl _) _).alloc (by simp) _).drew⟩


end Go.Proofs.YtoolmokcbdkhoaaFmt.Fa
