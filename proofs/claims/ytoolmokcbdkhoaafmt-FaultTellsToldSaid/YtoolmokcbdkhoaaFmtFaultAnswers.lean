/-
  What package fault answers of an error, and what the statements' own answers are: the same, for each error that made makes. Conditions: errors' own variable for the type error holds what the program's text lays there.
-/
import Derived.Test.YtoolmokcbdkhoaaFmtFaultMade0
namespace Go.Proofs.YtoolmokcbdkhoaaFmt.Fa
open Go.RowKit Go.Extern.Stop Go.Stop Go.Extern Go.Kit Go.Lib

def codeV (ot : Bool) (e : Int) : Int := if ot then 1 else e
def atV (ot : Bool) (e at_ : Int) : Int := if ot then -1 else if e = 0 then -1 else at_
def isV (ot : Bool) (e i : Int) : Bool := if ot then false else e == i
def nameV (L : List Lay) : ByteArray := match outer L with | some s => s | Option.none => ⟨#[]⟩

/-- An error that made makes: none, or a chain. -/
def Err (w : World) (v : Value) (L : List Lay) (ot : Bool) (e at_ : Int) : Prop :=
  (v = .nilIface ∧ ot = false ∧ e = 0 ∧ L = []) ∨ (Ch w L (baseOf ot e at_) v ∧ (ot = false → ¬ e = 0))

theorem Err.keep {w w' : World} {v : Value} {L : List Lay} {ot : Bool} {e at_ : Int} (h : Err w v L ot e at_) (hb : Below w.heap.size w w') : Err w' v L ot e at_ := by
  rcases h with h | ⟨h, k⟩
  · exact .inl h
  · exact .inr ⟨h.keep hb, k⟩

theorem code_err {L : List Lay} {ot : Bool} {e at_ : Int} {v : Value} (w : World) (hg : ErrType w) (h : Err w v L ot e at_) : Calls Tryf.prog 7 #[v] w (Gives (.int .i64 (codeV ot e)) w) := by
  rcases h with ⟨rfl, rfl, rfl, rfl⟩ | ⟨h, k⟩
  · exact code_nil w
  · cases ot with
    | true => exact code_other L v w hg h
    | false => exact code_hit L e at_ v w hg h (by simpa using k rfl)

theorem at_err {L : List Lay} {ot : Bool} {e at_ : Int} {v : Value} (w : World) (hg : ErrType w) (h : Err w v L ot e at_) : Calls Tryf.prog 9 #[v] w (Gives (.int .i64 (atV ot e at_)) w) := by
  rcases h with ⟨rfl, rfl, rfl, rfl⟩ | ⟨h, k⟩
  · exact at_miss _ w (Lib.hid (inner_nil w))
  · cases ot with
    | true => exact at_miss v w (Lib.hid (inner_other L v w hg h))
    | false =>
      have : atV false e at_ = at_ := by simp [atV, k rfl]
      rw [this]
      exact at_hit L e at_ v w hg h (by simpa using k rfl)

theorem name_err {L : List Lay} {ot : Bool} {e at_ : Int} {v : Value} (w : World) (hg : ErrType w) (h : Err w v L ot e at_) : Calls Tryf.prog 11 #[v] w (Gives (.string (nameV L)) w) := by
  rcases h with ⟨rfl, rfl, rfl, rfl⟩ | ⟨h, k⟩
  · exact name_nil w
  · unfold nameV
    cases ho : outer L with
    | none => exact name_miss L _ v w hg h ho
    | some s => exact name_hit L _ s v w hg h ho

theorem is_err {L : List Lay} {ot : Bool} {e at_ : Int} {v : Value} (i : Int) (w : World) (h : Err w v L ot e at_) : Calls Tryf.prog 13 #[v, .int .i64 i] w (Gives (.bool (isV ot e i)) w) := by
  rcases h with ⟨rfl, rfl, rfl, rfl⟩ | ⟨h, k⟩
  · have : isV false 0 i = (i == 0) := by
      show ((0 : Int) == i) = (i == 0)
      rw [Bool.eq_iff_iff, beq_iff_eq, beq_iff_eq]
      exact eq_comm
    rw [this]
    exact isf_nil i w
  · cases ot with
    | true => exact isf_other L i v w h
    | false => exact isf_fault L e i at_ v w h

/-! ### the statements' own answers -/

theorem rcode_any (e at_ : Int) (ot : Bool) (sl : Value) (w : World) : Calls Tryf.prog 8 #[.agg #[.int .i64 e, .int .i64 at_, sl, .bool ot]] w (Gives (.int .i64 (codeV ot e)) w) := by
  cases ot
  all_goals
    go_enter Tryf.func8, Tryf.ntmps8
    go_wp2
    go_ret
    exact ⟨rfl, (Below.refl _ _).alloc (Nat.le_refl _) _⟩

theorem rat_any (e at_ : Int) (ot : Bool) (sl : Value) (w : World) : Calls Tryf.prog 10 #[.agg #[.int .i64 e, .int .i64 at_, sl, .bool ot]] w (Gives (.int .i64 (atV ot e at_)) w) := by
  cases ot
  · by_cases he : e = 0
    · have hx : atV false e at_ = -1 := by simp [atV, he]
      rw [hx]
      clear hx
      go_enter Tryf.func10, Tryf.ntmps10
      go_wp2
      go_ret
      exact ⟨rfl, (Below.refl _ _).alloc (Nat.le_refl _) _⟩
    · have hx : atV false e at_ = at_ := by simp [atV, he]
      rw [hx]
      clear hx
      go_enter Tryf.func10, Tryf.ntmps10
      go_wp2
      go_ret
      exact ⟨rfl, (Below.refl _ _).alloc (Nat.le_refl _) _⟩
  · go_enter Tryf.func10, Tryf.ntmps10
    go_wp2
    go_ret
    exact ⟨rfl, (Below.refl _ _).alloc (Nat.le_refl _) _⟩

theorem ris_any (e at_ i : Int) (ot : Bool) (sl : Value) (w : World) : Calls Tryf.prog 14 #[.agg #[.int .i64 e, .int .i64 at_, sl, .bool ot], .int .i64 i] w (Gives (.bool (isV ot e i)) w) := by
  cases ot
  all_goals
    go_enter Tryf.func14, Tryf.ntmps14
    go_wp2
    go_ret
    exact ⟨rfl, (Below.refl _ _).alloc (Nat.le_refl _) _⟩

/-- The names that stand around an error, in memory: the last of them is the outermost. -/
def Names (w : World) (L : List Lay) (sl : Value) : Prop := ∃ base m xs, w.ownsRow base 9 1 sl m xs ∧ xs.getLast? = (outer L).map Value.string ∧ m ≤ 30

theorem Names.keep {w w' : World} {L : List Lay} {sl : Value} (h : Names w L sl) (hb : Below w.heap.size w w') : Names w' L sl := by
  obtain ⟨base, m, xs, h1, h2, h3⟩ := h
  exact ⟨base, m, xs, ownsRow_below h1 hb, h2, h3⟩

theorem rname_any (e at_ : Int) (ot : Bool) (L : List Lay) (sl : Value) (w : World) (h : Names w L sl) (hne : L = [] ∨ (ot = false → ¬ e = 0)) : Calls Tryf.prog 12 #[.agg #[.int .i64 e, .int .i64 at_, sl, .bool ot]] w (Gives (.string (nameV L)) w) := by
  obtain ⟨base, m, xs, ho, hl, hm⟩ := h
  by_cases hm0 : m = 0
  · have hx : xs = [] := by
      have := ho.1
      simp [hm0] at this
      exact this
    have hL : nameV L = ⟨#[]⟩ := by
      unfold nameV
      cases hq : outer L with
      | none => rfl
      | some s => rw [hq, hx] at hl; simp at hl
    rw [hL]
    obtain ⟨p, c, rfl⟩ : ∃ p c, sl = .slice p 0 c := by
      rcases ho.2 with ⟨h, _⟩ | ⟨g, cp, _, h, _⟩
      · exact ⟨_, _, h⟩
      · rw [hm0] at h; exact ⟨_, _, h⟩
    clear hL hx ho hl hne
    go_enter Tryf.func12, Tryf.ntmps12
    go_wp2
    go_ret
    exact ⟨rfl, (Below.refl _ _).alloc (Nat.le_refl _) _⟩
  · obtain ⟨g, cap, rfl, hxl, hg, hcells⟩ := src_of_owns ho (by omega)
    obtain ⟨k, rfl⟩ : ∃ k, m = k + 1 := ⟨m - 1, by omega⟩
    obtain ⟨s, hs⟩ : ∃ s, outer L = some s := by
      cases hq : outer L with
      | none =>
        rw [hq] at hl
        have : xs = [] := by simpa using hl
        rw [this] at hxl
        simp at hxl
      | some s => exact ⟨s, rfl⟩
    have hlast : xs[k]? = some (.string s) := by
      rw [hs, List.getLast?_eq_getElem?, hxl] at hl
      simpa using hl
    have hc := hcells (w.alloc (.cells #[.int .i64 e, .int .i64 at_, .slice (some ⟨g, 0, none⟩) (k + 1) cap, .bool ot] 28)) ((Below.refl _ _).alloc (Nat.le_refl _) _) k _ hlast
    have hadd : (⟨g, 0, none⟩ : Addr).add k = ⟨g, k, none⟩ := by unfold Addr.add; split <;> simp_all
    rw [hadd] at hc
    have hn : nameV L = s := by unfold nameV; rw [hs]
    rw [hn]
    have hk0 : (0 : Int) ≤ (k : Int) := by omega
    have hk1 : (k : Int) < (k : Int) + 1 := by omega
    have hkz : ((k : Int) + 1 == 0) = false := by simp; omega
    have hne2 : ot = false → ¬ e = 0 := by
      rcases hne with h | h
      · rw [h] at hs; cases hs
      · exact h
    clear hne hn hs hl hlast hcells ho hxl hadd
    cases ot
    · have he := hne2 rfl
      clear hne2
      go_enter Tryf.func12, Tryf.ntmps12
      go_wp2
      go_ret
      exact ⟨rfl, (Below.refl _ _).alloc (Nat.le_refl _) _⟩
    · clear hne2
      go_enter Tryf.func12, Tryf.ntmps12
      go_wp2
      go_ret
      exact ⟨rfl, (Below.refl _ _).alloc (Nat.le_refl _) _⟩


end Go.Proofs.YtoolmokcbdkhoaaFmt.Fa
