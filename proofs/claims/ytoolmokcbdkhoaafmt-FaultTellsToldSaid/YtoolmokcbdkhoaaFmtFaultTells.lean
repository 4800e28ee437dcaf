/-
  The walk of the statement FaultTells of layer 2. Conditions: errors' own variable for the type error holds what the program's text lays there; what stands in fmt's place tells fmt's text; the strings fit a machine's memory.
-/
import Derived.Test.YtoolmokcbdkhoaaFmtFaultMade
import Derived.Test.YtoolmokcbdkhoaaFmtFaultMade2
namespace Go.Proofs.YtoolmokcbdkhoaaFmt.Fa
open Go.RowKit Go.Extern.Stop Go.Stop Go.Extern Go.Kit Go.Lib

/-- What comes in as the list of names: nil, or strings that lie in memory. -/
def Given (w : World) (nv : Value) (len : Nat) : Prop :=
  (∃ p c, nv = .slice p 0 c ∧ len = 0) ∨ ∃ (a off cap : Nat) (ss : Nat → ByteArray), nv = .slice (some ⟨a, off, none⟩) len cap ∧ ∀ i, i < len → w.cell? ⟨a, off + i, none⟩ = some (.string (ss i)) ∧ (ss i).size ≤ 140737488355328

/-- How made ends: an error that it has made, and what it is made of. -/
def MadeErr (e at_ : Int) (ot : Bool) (w : World) (x : Ending) (w' : World) : Prop :=
  ∃ v L p n c, x = .returned (.tuple #[v, .agg #[.int .i64 e, .int .i64 at_, .slice p n c, .bool ot]]) ∧ Err w' v L ot e at_ ∧ Names w' L (.slice p n c) ∧ (L = [] ∨ (ot = false → ¬ e = 0)) ∧ Below w.heap.size w w'

theorem Made.err {e at_ : Int} {ot : Bool} {w w' : World} {x : Ending} (hne : ot = false → ¬ e = 0) (h : Made e at_ ot w x w') : MadeErr e at_ ot w x w' := by
  obtain ⟨v, L, sl, m, xs, hx, hc, ho, _, hl, hm, hb⟩ := h
  obtain ⟨p, n, c, rfl⟩ : ∃ p n c, sl = .slice p n c := by
    rcases ho.2 with ⟨h, _⟩ | ⟨g, cp, _, h, _⟩
    · exact ⟨_, _, _, h⟩
    · exact ⟨_, _, _, h⟩
  exact ⟨v, L, p, n, c, hx, .inr ⟨hc, hne⟩, ⟨_, m, xs, ho, hl, hm⟩, .inr hne, hb⟩

theorem made_err (F : Interp) (hT : Tells F) (e at_ : Int) (ot : Bool) (nv : Value) (len : Nat) (w : World) (hF : F.answers w.tape) (hlen : len ≤ 30) (hn : Given w nv len) :
    Calls Tryf.prog 6 #[.int .i64 e, .int .i64 at_, .bool ot, nv] w (MadeErr e at_ ot w) := by
  by_cases hne : ot = false → ¬ e = 0
  · rcases hn with ⟨p, c, rfl, rfl⟩ | ⟨a, off, cap, ss, rfl, h⟩
    · exact (made_bare e at_ ot p c w hne).mono fun _ _ h => h.err hne
    · exact (made_chain F hT e at_ ot a off len cap ss w hF hlen (fun i hi => (h i hi).1) (fun i hi => (h i hi).2) hne).mono fun _ _ h => h.err hne
  · obtain ⟨rfl, rfl⟩ : ot = false ∧ e = 0 := by
      cases ot with
      | true => exact absurd (fun h => by cases h) hne
      | false => exact ⟨rfl, Decidable.of_not_not fun h => hne fun _ => h⟩
    obtain ⟨p0, c0, rfl⟩ : ∃ p c, nv = .slice p len c := by
      rcases hn with ⟨p, c, h, rfl⟩ | ⟨a, off, cap, _, h, _⟩
      · exact ⟨_, _, h⟩
      · exact ⟨_, _, h⟩
    refine (made_none at_ p0 len c0 w).mono fun x w' ⟨hx, hb⟩ => ⟨.nilIface, [], Option.none, 0, 0, hx, .inl ⟨rfl, rfl, rfl, rfl⟩, ⟨0, 0, [], ⟨rfl, .inl ⟨rfl, rfl⟩⟩, rfl, by omega⟩, .inl rfl, hb⟩


set_option maxHeartbeats 8000000 in
set_option maxRecDepth 100000 in
theorem tells_none (F : Interp) (hT : Tells F)  (at_ i : Int) (nv : Value) (p0 : Option Addr) (len c0 : Nat) (w : World) (hF : F.answers w.tape) (hg : ErrType w) (hlen : len ≤ 30) (hn : Given w nv len) (hnv : nv = .slice p0 len c0)  :
    Calls Tryf.prog 3 #[.int .i64 0, .int .i64 at_, .bool false, nv, .int .i64 i] w (Yes w) := by
  subst hnv
  have hlen' : decide ((30 : Int) < (len : Int)) = false := by simp; omega
  have HM := Lib.hid (made_err F hT 0 at_ false _ len w hF hlen hn)
  have HG := Lib.hid hg
  clear hT hF hg hn
  go_enter Tryf.func3, Tryf.ntmps3
  go_wp2_with (go_at_call 6; go_loud (
    refine HM.out.mono ?_
    rintro x wm ⟨v, L, p, n, c, rfl, herr, hnm, hll, hb⟩
    have HE := Lib.hid herr
    obtain ⟨rfl, rfl⟩ : v = .nilIface ∧ L = [] := by
      rcases herr with ⟨h1, _, _, h2⟩ | ⟨_, h⟩
      · exact ⟨h1, h2⟩
      · exact absurd rfl (h rfl)
    have HN := Lib.hid hnm
    have HL := Lib.hid hll
    have HB := Lib.hid hb
    clear herr hnm hll hb))
  have hbq : Below wm.heap.size wm (wm.alloc (.cells #[.int .i64 0, .int .i64 at_, .slice p n c, .bool false] 28)) := (Below.refl _ _).alloc (Nat.le_refl _) _
  have HE1 := Lib.hid (HE.out.keep hbq)
  have HN1 := Lib.hid (HN.out.keep hbq)
  have HG1 := Lib.hid ((HG.out.keep HB.out).keep hbq)
  have HB1 := Lib.hid (step HB.out hbq)
  have k0 : (wm.alloc (.cells #[.int .i64 0, .int .i64 at_, .slice p n c, .bool false] 28)).cell? ⟨wm.heap.size, 0, none⟩ = some (.int .i64 0) := by simp
  have k1 : (wm.alloc (.cells #[.int .i64 0, .int .i64 at_, .slice p n c, .bool false] 28)).cell? ⟨wm.heap.size, 1, none⟩ = some (.int .i64 at_) := by simp
  have k2 : (wm.alloc (.cells #[.int .i64 0, .int .i64 at_, .slice p n c, .bool false] 28)).cell? ⟨wm.heap.size, 2, none⟩ = some (.slice p n c) := by simp
  have k3 : (wm.alloc (.cells #[.int .i64 0, .int .i64 at_, .slice p n c, .bool false] 28)).cell? ⟨wm.heap.size, 3, none⟩ = some (.bool false) := by simp
  clear hbq HE HN HG HB HM
  generalize wm.alloc (.cells #[.int .i64 0, .int .i64 at_, .slice p n c, .bool false] 28) = wq at HE1 HN1 HG1 HB1 k0 k1 k2 k3 ⊢
  generalize wm.heap.size = fb at k0 k1 k2 k3 ⊢
  have hfb := lt_of_cell k0
  have HQ := Lib.hid (show ∀ w', Below wq.heap.size wq w' → w'.cell? ⟨fb, 0, none⟩ = some (.int .i64 0) ∧ w'.cell? ⟨fb, 1, none⟩ = some (.int .i64 at_) ∧ w'.cell? ⟨fb, 2, none⟩ = some (.slice p n c) ∧ w'.cell? ⟨fb, 3, none⟩ = some (.bool false) ∧ Below wq.heap.size wq w' from
    fun w' hb => ⟨(hb.cell (p := ⟨fb, 0, none⟩) hfb).trans k0, (hb.cell (p := ⟨fb, 1, none⟩) hfb).trans k1, (hb.cell (p := ⟨fb, 2, none⟩) hfb).trans k2, (hb.cell (p := ⟨fb, 3, none⟩) hfb).trans k3, hb⟩)
  have hbd : Below wq.heap.size wq wq.drew := (Below.refl _ _).drew
  go_region_held3 (fun w' => w'.cell? ⟨fb, 0, none⟩ = some (.int .i64 0) ∧ w'.cell? ⟨fb, 1, none⟩ = some (.int .i64 at_) ∧ w'.cell? ⟨fb, 2, none⟩ = some (.slice p n c) ∧ w'.cell? ⟨fb, 3, none⟩ = some (.bool false) ∧ Below wq.heap.size wq w')
    (exact HQ.out _ (by assumption))
    (first
      | (go_at_call 7; refine (code_err (L := []) (ot := false) (e := 0) (at_ := at_) _ (HG1.out.keep (by assumption)) (HE1.out.keep (by assumption))).mono ?_; rintro x wn ⟨rfl, hb⟩; have kB : Below wq.heap.size wq wn := step (by assumption) hb; clear hb)
      | (go_at_call 8; refine (rcode_any _ _ _ _ _).mono ?_; rintro x wn ⟨rfl, hb⟩; have kB : Below wq.heap.size wq wn := step (by assumption) hb; clear hb)
      | (go_at_call 9; refine (at_err (L := []) (ot := false) (e := 0) (at_ := at_) _ (HG1.out.keep (by assumption)) (HE1.out.keep (by assumption))).mono ?_; rintro x wn ⟨rfl, hb⟩; have kB : Below wq.heap.size wq wn := step (by assumption) hb; clear hb)
      | (go_at_call 10; refine (rat_any _ _ _ _ _).mono ?_; rintro x wn ⟨rfl, hb⟩; have kB : Below wq.heap.size wq wn := step (by assumption) hb; clear hb)
      | (go_at_call 11; refine (name_err (L := []) (ot := false) (e := 0) (at_ := at_) _ (HG1.out.keep (by assumption)) (HE1.out.keep (by assumption))).mono ?_; rintro x wn ⟨rfl, hb⟩; have kB : Below wq.heap.size wq wn := step (by assumption) hb; clear hb)
      | (go_at_call 12; refine (rname_any _ _ _ [] _ _ (HN1.out.keep (by assumption)) (.inl rfl)).mono ?_; rintro x wn ⟨rfl, hb⟩; have kB : Below wq.heap.size wq wn := step (by assumption) hb; clear hb)
      | (go_at_call 13; refine (is_err (L := []) (ot := false) (e := 0) (at_ := at_) _ _ (HE1.out.keep (by assumption))).mono ?_; rintro x wn ⟨rfl, hb⟩; have kB : Below wq.heap.size wq wn := step (by assumption) hb; clear hb)
      | (go_at_call 14; refine (ris_any _ _ _ _ _ _).mono ?_; rintro x wn ⟨rfl, hb⟩; have kB : Below wq.heap.size wq wn := step (by assumption) hb; clear hb)
      | (go_at_call 5; refine (awake_any _ (HG1.out.keep (by assumption))).mono ?_; rintro x wn ⟨rfl, hb⟩; have kB : Below wq.heap.size wq wn := step (by assumption) hb; clear hb))
  go_wp2
  go_ret
  exact ⟨rfl, step HB1.out (by assumption)⟩


set_option maxHeartbeats 8000000 in
set_option maxRecDepth 100000 in
theorem tells_fault (F : Interp) (hT : Tells F) (e : Int) (at_ i : Int) (nv : Value) (p0 : Option Addr) (len c0 : Nat) (w : World) (hF : F.answers w.tape) (hg : ErrType w) (hlen : len ≤ 30) (hn : Given w nv len) (hnv : nv = .slice p0 len c0) (hne : ¬ e = 0) :
    Calls Tryf.prog 3 #[.int .i64 e, .int .i64 at_, .bool false, nv, .int .i64 i] w (Yes w) := by
  subst hnv
  have hlen' : decide ((30 : Int) < (len : Int)) = false := by simp; omega
  have HNE := Lib.hid hne
  have HM := Lib.hid (made_err F hT e at_ false _ len w hF hlen hn)
  have HG := Lib.hid hg
  clear hT hF hg hn
  go_enter Tryf.func3, Tryf.ntmps3
  go_wp2_with (go_at_call 6; go_loud (
    refine HM.out.mono ?_
    rintro x wm ⟨v, L, p, n, c, rfl, herr, hnm, hll, hb⟩
    have HE := Lib.hid herr
    obtain ⟨T, y, rfl⟩ : ∃ T y, v = .iface T y := by
      rcases herr with ⟨_, h1, h2, _⟩ | ⟨h, _⟩
      · exact absurd h2 HNE.out
      · exact h.iface
    have HN := Lib.hid hnm
    have HL := Lib.hid hll
    have HB := Lib.hid hb
    clear herr hnm hll hb))
  have hbq : Below wm.heap.size wm (wm.alloc (.cells #[.int .i64 e, .int .i64 at_, .slice p n c, .bool false] 28)) := (Below.refl _ _).alloc (Nat.le_refl _) _
  have HE1 := Lib.hid (HE.out.keep hbq)
  have HN1 := Lib.hid (HN.out.keep hbq)
  have HG1 := Lib.hid ((HG.out.keep HB.out).keep hbq)
  have HB1 := Lib.hid (step HB.out hbq)
  have k0 : (wm.alloc (.cells #[.int .i64 e, .int .i64 at_, .slice p n c, .bool false] 28)).cell? ⟨wm.heap.size, 0, none⟩ = some (.int .i64 e) := by simp
  have k1 : (wm.alloc (.cells #[.int .i64 e, .int .i64 at_, .slice p n c, .bool false] 28)).cell? ⟨wm.heap.size, 1, none⟩ = some (.int .i64 at_) := by simp
  have k2 : (wm.alloc (.cells #[.int .i64 e, .int .i64 at_, .slice p n c, .bool false] 28)).cell? ⟨wm.heap.size, 2, none⟩ = some (.slice p n c) := by simp
  have k3 : (wm.alloc (.cells #[.int .i64 e, .int .i64 at_, .slice p n c, .bool false] 28)).cell? ⟨wm.heap.size, 3, none⟩ = some (.bool false) := by simp
  clear hbq HE HN HG HB HM
  generalize wm.alloc (.cells #[.int .i64 e, .int .i64 at_, .slice p n c, .bool false] 28) = wq at HE1 HN1 HG1 HB1 k0 k1 k2 k3 ⊢
  generalize wm.heap.size = fb at k0 k1 k2 k3 ⊢
  have hfb := lt_of_cell k0
  have HQ := Lib.hid (show ∀ w', Below wq.heap.size wq w' → w'.cell? ⟨fb, 0, none⟩ = some (.int .i64 e) ∧ w'.cell? ⟨fb, 1, none⟩ = some (.int .i64 at_) ∧ w'.cell? ⟨fb, 2, none⟩ = some (.slice p n c) ∧ w'.cell? ⟨fb, 3, none⟩ = some (.bool false) ∧ Below wq.heap.size wq w' from
    fun w' hb => ⟨(hb.cell (p := ⟨fb, 0, none⟩) hfb).trans k0, (hb.cell (p := ⟨fb, 1, none⟩) hfb).trans k1, (hb.cell (p := ⟨fb, 2, none⟩) hfb).trans k2, (hb.cell (p := ⟨fb, 3, none⟩) hfb).trans k3, hb⟩)
  have hbd : Below wq.heap.size wq wq.drew := (Below.refl _ _).drew
  go_region_held3 (fun w' => w'.cell? ⟨fb, 0, none⟩ = some (.int .i64 e) ∧ w'.cell? ⟨fb, 1, none⟩ = some (.int .i64 at_) ∧ w'.cell? ⟨fb, 2, none⟩ = some (.slice p n c) ∧ w'.cell? ⟨fb, 3, none⟩ = some (.bool false) ∧ Below wq.heap.size wq w')
    (exact HQ.out _ (by assumption))
    (first
      | (go_at_call 7; refine (code_err (L := L) (ot := false) (e := e) (at_ := at_) _ (HG1.out.keep (by assumption)) (HE1.out.keep (by assumption))).mono ?_; rintro x wn ⟨rfl, hb⟩; have kB : Below wq.heap.size wq wn := step (by assumption) hb; clear hb)
      | (go_at_call 8; refine (rcode_any _ _ _ _ _).mono ?_; rintro x wn ⟨rfl, hb⟩; have kB : Below wq.heap.size wq wn := step (by assumption) hb; clear hb)
      | (go_at_call 9; refine (at_err (L := L) (ot := false) (e := e) (at_ := at_) _ (HG1.out.keep (by assumption)) (HE1.out.keep (by assumption))).mono ?_; rintro x wn ⟨rfl, hb⟩; have kB : Below wq.heap.size wq wn := step (by assumption) hb; clear hb)
      | (go_at_call 10; refine (rat_any _ _ _ _ _).mono ?_; rintro x wn ⟨rfl, hb⟩; have kB : Below wq.heap.size wq wn := step (by assumption) hb; clear hb)
      | (go_at_call 11; refine (name_err (L := L) (ot := false) (e := e) (at_ := at_) _ (HG1.out.keep (by assumption)) (HE1.out.keep (by assumption))).mono ?_; rintro x wn ⟨rfl, hb⟩; have kB : Below wq.heap.size wq wn := step (by assumption) hb; clear hb)
      | (go_at_call 12; refine (rname_any _ _ _ L _ _ (HN1.out.keep (by assumption)) (.inr (fun _ => HNE.out))).mono ?_; rintro x wn ⟨rfl, hb⟩; have kB : Below wq.heap.size wq wn := step (by assumption) hb; clear hb)
      | (go_at_call 13; refine (is_err (L := L) (ot := false) (e := e) (at_ := at_) _ _ (HE1.out.keep (by assumption))).mono ?_; rintro x wn ⟨rfl, hb⟩; have kB : Below wq.heap.size wq wn := step (by assumption) hb; clear hb)
      | (go_at_call 14; refine (ris_any _ _ _ _ _ _).mono ?_; rintro x wn ⟨rfl, hb⟩; have kB : Below wq.heap.size wq wn := step (by assumption) hb; clear hb)
      | (go_at_call 5; refine (awake_any _ (HG1.out.keep (by assumption))).mono ?_; rintro x wn ⟨rfl, hb⟩; have kB : Below wq.heap.size wq wn := step (by assumption) hb; clear hb))
  go_wp2
  go_ret
  exact ⟨rfl, step HB1.out (by assumption)⟩


set_option maxHeartbeats 8000000 in
set_option maxRecDepth 100000 in
theorem tells_other (F : Interp) (hT : Tells F) (e : Int) (at_ i : Int) (nv : Value) (p0 : Option Addr) (len c0 : Nat) (w : World) (hF : F.answers w.tape) (hg : ErrType w) (hlen : len ≤ 30) (hn : Given w nv len) (hnv : nv = .slice p0 len c0)  :
    Calls Tryf.prog 3 #[.int .i64 e, .int .i64 at_, .bool true, nv, .int .i64 i] w (Yes w) := by
  subst hnv
  have hlen' : decide ((30 : Int) < (len : Int)) = false := by simp; omega
  have HM := Lib.hid (made_err F hT e at_ true _ len w hF hlen hn)
  have HG := Lib.hid hg
  clear hT hF hg hn
  go_enter Tryf.func3, Tryf.ntmps3
  go_wp2_with (go_at_call 6; go_loud (
    refine HM.out.mono ?_
    rintro x wm ⟨v, L, p, n, c, rfl, herr, hnm, hll, hb⟩
    have HE := Lib.hid herr
    obtain ⟨T, y, rfl⟩ : ∃ T y, v = .iface T y := by
      rcases herr with ⟨_, h1, h2, _⟩ | ⟨h, _⟩
      · cases h1
      · exact h.iface
    have HN := Lib.hid hnm
    have HL := Lib.hid hll
    have HB := Lib.hid hb
    clear herr hnm hll hb))
  have hbq : Below wm.heap.size wm (wm.alloc (.cells #[.int .i64 e, .int .i64 at_, .slice p n c, .bool true] 28)) := (Below.refl _ _).alloc (Nat.le_refl _) _
  have HE1 := Lib.hid (HE.out.keep hbq)
  have HN1 := Lib.hid (HN.out.keep hbq)
  have HG1 := Lib.hid ((HG.out.keep HB.out).keep hbq)
  have HB1 := Lib.hid (step HB.out hbq)
  have k0 : (wm.alloc (.cells #[.int .i64 e, .int .i64 at_, .slice p n c, .bool true] 28)).cell? ⟨wm.heap.size, 0, none⟩ = some (.int .i64 e) := by simp
  have k1 : (wm.alloc (.cells #[.int .i64 e, .int .i64 at_, .slice p n c, .bool true] 28)).cell? ⟨wm.heap.size, 1, none⟩ = some (.int .i64 at_) := by simp
  have k2 : (wm.alloc (.cells #[.int .i64 e, .int .i64 at_, .slice p n c, .bool true] 28)).cell? ⟨wm.heap.size, 2, none⟩ = some (.slice p n c) := by simp
  have k3 : (wm.alloc (.cells #[.int .i64 e, .int .i64 at_, .slice p n c, .bool true] 28)).cell? ⟨wm.heap.size, 3, none⟩ = some (.bool true) := by simp
  clear hbq HE HN HG HB HM
  generalize wm.alloc (.cells #[.int .i64 e, .int .i64 at_, .slice p n c, .bool true] 28) = wq at HE1 HN1 HG1 HB1 k0 k1 k2 k3 ⊢
  generalize wm.heap.size = fb at k0 k1 k2 k3 ⊢
  have hfb := lt_of_cell k0
  have HQ := Lib.hid (show ∀ w', Below wq.heap.size wq w' → w'.cell? ⟨fb, 0, none⟩ = some (.int .i64 e) ∧ w'.cell? ⟨fb, 1, none⟩ = some (.int .i64 at_) ∧ w'.cell? ⟨fb, 2, none⟩ = some (.slice p n c) ∧ w'.cell? ⟨fb, 3, none⟩ = some (.bool true) ∧ Below wq.heap.size wq w' from
    fun w' hb => ⟨(hb.cell (p := ⟨fb, 0, none⟩) hfb).trans k0, (hb.cell (p := ⟨fb, 1, none⟩) hfb).trans k1, (hb.cell (p := ⟨fb, 2, none⟩) hfb).trans k2, (hb.cell (p := ⟨fb, 3, none⟩) hfb).trans k3, hb⟩)
  have hbd : Below wq.heap.size wq wq.drew := (Below.refl _ _).drew
  go_region_held3 (fun w' => w'.cell? ⟨fb, 0, none⟩ = some (.int .i64 e) ∧ w'.cell? ⟨fb, 1, none⟩ = some (.int .i64 at_) ∧ w'.cell? ⟨fb, 2, none⟩ = some (.slice p n c) ∧ w'.cell? ⟨fb, 3, none⟩ = some (.bool true) ∧ Below wq.heap.size wq w')
    (exact HQ.out _ (by assumption))
    (first
      | (go_at_call 7; refine (code_err (L := L) (ot := true) (e := e) (at_ := at_) _ (HG1.out.keep (by assumption)) (HE1.out.keep (by assumption))).mono ?_; rintro x wn ⟨rfl, hb⟩; have kB : Below wq.heap.size wq wn := step (by assumption) hb; clear hb)
      | (go_at_call 8; refine (rcode_any _ _ _ _ _).mono ?_; rintro x wn ⟨rfl, hb⟩; have kB : Below wq.heap.size wq wn := step (by assumption) hb; clear hb)
      | (go_at_call 9; refine (at_err (L := L) (ot := true) (e := e) (at_ := at_) _ (HG1.out.keep (by assumption)) (HE1.out.keep (by assumption))).mono ?_; rintro x wn ⟨rfl, hb⟩; have kB : Below wq.heap.size wq wn := step (by assumption) hb; clear hb)
      | (go_at_call 10; refine (rat_any _ _ _ _ _).mono ?_; rintro x wn ⟨rfl, hb⟩; have kB : Below wq.heap.size wq wn := step (by assumption) hb; clear hb)
      | (go_at_call 11; refine (name_err (L := L) (ot := true) (e := e) (at_ := at_) _ (HG1.out.keep (by assumption)) (HE1.out.keep (by assumption))).mono ?_; rintro x wn ⟨rfl, hb⟩; have kB : Below wq.heap.size wq wn := step (by assumption) hb; clear hb)
      | (go_at_call 12; refine (rname_any _ _ _ L _ _ (HN1.out.keep (by assumption)) (.inr (fun h => by cases h))).mono ?_; rintro x wn ⟨rfl, hb⟩; have kB : Below wq.heap.size wq wn := step (by assumption) hb; clear hb)
      | (go_at_call 13; refine (is_err (L := L) (ot := true) (e := e) (at_ := at_) _ _ (HE1.out.keep (by assumption))).mono ?_; rintro x wn ⟨rfl, hb⟩; have kB : Below wq.heap.size wq wn := step (by assumption) hb; clear hb)
      | (go_at_call 14; refine (ris_any _ _ _ _ _ _).mono ?_; rintro x wn ⟨rfl, hb⟩; have kB : Below wq.heap.size wq wn := step (by assumption) hb; clear hb)
      | (go_at_call 5; refine (awake_any _ (HG1.out.keep (by assumption))).mono ?_; rintro x wn ⟨rfl, hb⟩; have kB : Below wq.heap.size wq wn := step (by assumption) hb; clear hb))
  go_wp2
  go_ret
  exact ⟨rfl, step HB1.out (by assumption)⟩


set_option maxHeartbeats 2000000 in
set_option maxRecDepth 100000 in
theorem tells_many (e at_ i : Int) (ot : Bool) (p0 : Option Addr) (len c0 : Nat) (w : World) (hg : ErrType w) (hlen : 30 < len) :
    Calls Tryf.prog 3 #[.int .i64 e, .int .i64 at_, .bool ot, .slice p0 len c0, .int .i64 i] w (Yes w) := by
  have hlen' : decide ((30 : Int) < (len : Int)) = true := by simp; omega
  have HG := Lib.hid hg
  clear hg
  go_enter Tryf.func3, Tryf.ntmps3
  go_wp2_with (go_at_call 5; refine (awake_any _ HG.out).mono ?_; rintro x wn ⟨rfl, hb⟩; have HB := Lib.hid hb; clear hb)
  go_ret
  exact ⟨rfl, HB.out⟩

theorem tells_any (F : Interp) (hT : Tells F) (e at_ i : Int) (ot : Bool) (nv : Value) (p0 : Option Addr) (len c0 : Nat) (w : World) (hF : F.answers w.tape) (hg : ErrType w) (hn : len ≤ 30 → Given w nv len) (hnv : nv = .slice p0 len c0) :
    Calls Tryf.prog 3 #[.int .i64 e, .int .i64 at_, .bool ot, nv, .int .i64 i] w (Yes w) := by
  by_cases hl : len ≤ 30
  · cases ot with
    | true => exact tells_other F hT e at_ i nv p0 len c0 w hF hg hl (hn hl) hnv
    | false =>
      by_cases he : e = 0
      · subst he
        exact tells_none F hT at_ i nv p0 len c0 w hF hg hl (hn hl) hnv
      · exact tells_fault F hT e at_ i nv p0 len c0 w hF hg hl (hn hl) hnv he
  · subst hnv
    exact tells_many e at_ i ot p0 len c0 w hg (by omega)


end Go.Proofs.YtoolmokcbdkhoaaFmt.Fa
