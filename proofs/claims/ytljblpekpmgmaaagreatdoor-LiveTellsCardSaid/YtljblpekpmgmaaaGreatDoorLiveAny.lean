/-
  Package live: a dead symbol, and whether a list of symbols holds one; whether a symbol has a rule without dead ones. The sets are package bits' own.
-/
import Derived.Test.YtljblpekpmgmaaaGreatDoorBitsList
import Derived.Test.YtljblpekpmgmaaaGreatDoorGramCheck
import Derived.Test.YtljblpekpmgmaaaGreatDoorLiveDead
namespace Go.Proofs.YtljblpekpmgmaaaGreatDoor.Lv
open Go.RowKit Go.Maps
open Go.Proofs.YtljblpekpmgmaaaGreatDoor.Gr
open Go.Proofs.YtljblpekpmgmaaaGreatDoor.Bt (SetAt SetV has Keeps)
set_option linter.unusedVariables false

/-! ### The first number of a list that is so -/

def fint (p : Int → Bool) (L : List Int) : Int := match L.findIdx? p with | some i => (i : Int) | Option.none => -1
def NoneI (p : Int → Bool) (L : List Int) (k : Nat) : Prop := ∀ j (h : j < L.length), j < k → p L[j] = false
theorem noneI_zero (p : Int → Bool) (L : List Int) : NoneI p L 0 := fun _ _ h => absurd h (by omega)
theorem noneI_step {p : Int → Bool} {L : List Int} {k : Nat} (h : NoneI p L k) (hk : k < L.length) (e : p L[k] = false) : NoneI p L (k + 1) := fun j hj hl => by
  by_cases he : j = k
  · subst he
    exact e
  · exact h j hj (by omega)
theorem fint_hit {p : Int → Bool} {L : List Int} {k : Nat} (h : NoneI p L k) (hk : k < L.length) (e : p L[k] = true) : fint p L = (k : Int) := by
  have : L.findIdx? p = some k := by
    rw [List.findIdx?_eq_some_iff_getElem]
    exact ⟨hk, e, fun j hj => by simpa using h j (by omega) hj⟩
  simp [fint, this]
theorem fint_end {p : Int → Bool} {L : List Int} {k : Nat} (h : NoneI p L k) (hk : ¬ k < L.length) : fint p L = -1 := by
  have : L.findIdx? p = Option.none := by
    rw [List.findIdx?_eq_none_iff]
    intro x hx
    obtain ⟨j, hj, rfl⟩ := List.mem_iff_getElem.1 hx
    exact h j hj (by omega)
  simp [fint, this]
theorem fint_any (p : Int → Bool) (L : List Int) : decide (0 ≤ fint p L) = L.any p := by
  unfold fint
  cases h : L.findIdx? p with
  | none =>
    rw [List.findIdx?_eq_none_iff] at h
    simp [List.any_eq_false.2 (fun x hx => by simpa using h x hx)]
  | some i =>
    rw [List.findIdx?_eq_some_iff_getElem] at h
    obtain ⟨hi, e, _⟩ := h
    rw [List.any_eq_true.2 ⟨_, List.getElem_mem hi, e⟩]
    simp

/-! ### Dead by a set -/

def deadB (G : Gram) (B : Nat → Bool) (s : Int) : Bool := nonB G s && !has B s
def rightOf (G : Gram) (i : Int) : List Int := (G.rules.getD i.toNat (0, [])).2
/-- A rule that holds nothing dead. -/
def goodB (G : Gram) (B : Nat → Bool) (i : Int) : Bool := !(rightOf G i).any (deadB G B)
def derB (G : Gram) (B : Nat → Bool) (s : Int) : Bool := (ofL G s).any (goodB G B)

theorem drawnN (w : World) (m : Nat) : Below w.heap.size w (w.drewN m) := ⟨rfl, rfl, rfl, Nat.le_refl _, fun _ _ => rfl⟩
theorem set_went {p d n : Nat} {B : Nat → Bool} {w w' : World} (h : SetAt p d n B w) (hb : Below w.heap.size w w') : SetAt p d n B w' := h.below hb h.inp h.ind

set_option maxHeartbeats 1000000 in
theorem dead_any (h : Sh) (G : Gram) (s : Int) (p d n : Nat) (B : Nat → Bool) (w : World) (k : GAt h G w) (hS : SetAt p d n B w) (hs : s ≤ 9223372036854775807) :
    Calls Tryz.prog 21 #[gv h G, .int .i64 s, .pointer (some ⟨p, 0, none⟩)] w (Is (.bool (deadB G B s)) w) := by
  have N := Lib.hid (fun w1 (b : Below w.heap.size w w1) => non_any h G s w1 (k.went b))
  have H := Lib.hid (fun w1 (b : Below w.heap.size w w1) => Bt.has_any w1 (.at_ (set_went hS b)) s hs)
  have X := Lib.hid (Bx.start h G w 25)
  clear k hS
  cases hn : nonB G s with
  | false =>
    have E := Lib.hid (show deadB G B s = false by simp [deadB, hn])
    rw [hn] at N
    clear hn H
    unfold gv
    go_enter Tryz.func21, Tryz.ntmps21
    go_wp2_with (go_at_call 48; refine (N.out _ X.out.below).mono ?_; rintro e w1 ⟨rfl, hb⟩; have X := Lib.hid (X.out.went hb); clear hb)
    go_ret
    exact ⟨bool_of E.out, X.out.below⟩
  | true =>
    have E := Lib.hid (show deadB G B s = !has B s by simp [deadB, hn])
    rw [hn] at N
    generalize has B s = b at E H
    clear hn
    unfold gv
    go_enter Tryz.func21, Tryz.ntmps21
    go_wp2_with (first
      | (go_at_call 48; refine (N.out _ X.out.below).mono ?_; rintro e w1 ⟨rfl, hb⟩; have X := Lib.hid (X.out.went hb); clear hb)
      | (go_at_call 20; refine (H.out _ X.out.below).mono ?_; rintro e w2 ⟨rfl, m, rfl⟩; have X := Lib.hid (X.out.went (drawnN _ m))))
    go_ret
    exact ⟨bool_of E.out, X.out.below⟩

/-- What a closure of live holds: the box of a grammar, the variable of a set. -/
structure Cap (q1 q2 p d n : Nat) (h : Sh) (G : Gram) (B : Nat → Bool) (w : World) : Prop where
  box : Box q1 h G w
  cell : w.cell? ⟨q2, 0, none⟩ = some (.pointer (some ⟨p, 0, none⟩))
  gat : GAt h G w
  set : SetAt p d n B w
theorem Cap.went {q1 q2 p d n : Nat} {h : Sh} {G : Gram} {B : Nat → Bool} {w w' : World} (k : Cap q1 q2 p d n h G B w) (hb : Below w.heap.size w w') : Cap q1 q2 p d n h G B w' :=
  ⟨k.box.later hb, cell_later hb k.cell, k.gat.went hb, set_went k.set hb⟩

set_option maxHeartbeats 1000000 in
theorem dead_clo (q1 q2 p d n : Nat) (h : Sh) (G : Gram) (B : Nat → Bool) (s : Int) (w : World) (k : Cap q1 q2 p d n h G B w) (hs : s ≤ 9223372036854775807) :
    Calls Tryz.prog 79 #[.int .i64 s, .pointer (some ⟨q1, 0, none⟩), .pointer (some ⟨q2, 0, none⟩)] w (Is (.bool (deadB G B s)) w) := by
  have D := Lib.hid (dead_any h G s p d n B w k.gat k.set hs)
  obtain ⟨x0, x1, x2, x3⟩ := k.box
  have y := k.cell
  clear k
  go_enter Tryz.func79, Tryz.ntmps79
  go_wp2_with (go_at_call 21; refine D.out.mono ?_; rintro e w1 ⟨rfl, hb⟩; have HB := Lib.hid hb; clear hb)
  go_ret
  exact ⟨rfl, HB.out⟩

set_option maxHeartbeats 2000000 in
theorem index_dead (q1 q2 p d n : Nat) (h : Sh) (G : Gram) (B : Nat → Bool) (L : List Int) (a : Option Addr) (c : Nat) (w : World) (k : Cap q1 q2 p d n h G B w) (ha : Sep.Reads a (ivs L) w) (hl : L.length ≤ 17592186044416) (hf : ∀ x ∈ L, x ≤ 9223372036854775807) :
    Calls Tryz.prog 89 #[.slice a L.length c, .func (.func 79) #[] #[.pointer (some ⟨q1, 0, none⟩), .pointer (some ⟨q2, 0, none⟩)]] w (Is (.int .i64 (fint (deadB G B) L)) w) := by
  have HA := Lib.hid (fun w1 (b : Below w.heap.size w w1) => ha.below b (Nat.le_refl _))
  have HK := Lib.hid (fun w1 (b : Below w.heap.size w w1) => k.went b)
  have HF := Lib.hid hf
  clear ha k hf
  go_enter Tryz.func89, Tryz.ntmps89
  go_wp2
  go_loopw [8] (fun i wr => ∃ k : Nat, k ≤ L.length ∧ i = .int .i64 k ∧ NoneI (deadB G B) L k ∧ Below w.heap.size w wr) (fun i _ => L.length - (intOf i).toNat)
  case atStart => exact ⟨0, Nat.zero_le _, rfl, noneI_zero _ _, .refl _ _⟩
  case round =>
    obtain ⟨k, hk, rfl, hA, hW⟩ := hrel
    have A := Lib.hid hA
    have HW := Lib.hid hW
    clear hA
    by_cases hlt : k < L.length
    · obtain ⟨b1, o1, rfl, h1⟩ := int_at (HA.out _ hW) hlt
      have AE := Lib.hid (fun he => noneI_step A.out hlt he)
      have AF := Lib.hid (fun he => fint_hit A.out hlt he)
      have hx := HF.out _ (List.getElem_mem hlt)
      generalize L[k] = x at h1 AE AF hx
      have HC := Lib.hid (fun w1 (b : Below wr.heap.size wr w1) => dead_clo q1 q2 p d n h G B x w1 (HK.out _ (Gr.step hW b)) hx)
      clear hW hx
      cases hs : deadB G B x with
      | false =>
        rw [hs] at HC
        have A2 := Lib.hid (AE.out hs)
        clear hs
        go_wp2_with (go_at_call 79; refine (HC.out _ (.refl _ _)).mono ?_; rintro e w1 ⟨rfl, hb⟩; have HB := Lib.hid (Gr.step HW.out hb); clear hb)
        go_roundw
        case rel => exact ⟨k + 1, by omega, by go_num, A2.out, HB.out⟩
        case measure => simp [intOf]; omega
      | true =>
        rw [hs] at HC
        have F := Lib.hid (AF.out hs)
        clear hs
        go_wp2_with (go_at_call 79; refine (HC.out _ (.refl _ _)).mono ?_; rintro e w1 ⟨rfl, hb⟩; have HB := Lib.hid (Gr.step HW.out hb); clear hb)
        go_ret
        exact ⟨int_of F.out, HB.out⟩
    · have F := Lib.hid (fint_end A.out hlt)
      clear hW
      go_wp2
      go_ret
      exact ⟨int_of F.out, HW.out⟩

theorem contains_dead (q1 q2 p d n : Nat) (h : Sh) (G : Gram) (B : Nat → Bool) (L : List Int) (a : Option Addr) (c : Nat) (w : World) (k : Cap q1 q2 p d n h G B w) (ha : Sep.Reads a (ivs L) w) (hl : L.length ≤ 17592186044416) (hf : ∀ x ∈ L, x ≤ 9223372036854775807) :
    Calls Tryz.prog 73 #[.slice a L.length c, .func (.func 79) #[] #[.pointer (some ⟨q1, 0, none⟩), .pointer (some ⟨q2, 0, none⟩)]] w (Is (.bool (L.any (deadB G B))) w) := by
  have H := Lib.hid (index_dead q1 q2 p d n h G B L a c w k ha hl hf)
  have E := Lib.hid (fint_any (deadB G B) L)
  clear ha k hf
  generalize fint (deadB G B) L = m at H E
  go_enter Tryz.func73, Tryz.ntmps73
  go_wp2_with (go_at_call 89; refine H.out.mono ?_; rintro e w1 ⟨rfl, hb⟩; have HB := Lib.hid hb; clear hb)
  go_ret
  exact ⟨bool_of E.out.symm, HB.out⟩

/-- The captured variables of a call that boxes a grammar, then a set. -/
theorem cap_new (h : Sh) (G : Gram) (p d n : Nat) (B : Nat → Bool) (w : World) (T U : TypeId) (k : GAt h G w) (hS : SetAt p d n B w) :
    Cap w.heap.size (w.heap.size + 1) p d n h G B ((w.alloc (.cells #[.slice h.a1 G.terms.length h.c1, .slice h.a2 G.nons.length h.c2, .slice h.a3 G.rules.length h.c3, .int .i64 G.start] T)).alloc (.cells #[.pointer (some ⟨p, 0, none⟩)] U)) :=
  have b1 := boxed w (.cells #[.slice h.a1 G.terms.length h.c1, .slice h.a2 G.nons.length h.c2, .slice h.a3 G.rules.length h.c3, .int .i64 G.start] T)
  have b2 := Gr.step b1 (boxed _ (.cells #[.pointer (some ⟨p, 0, none⟩)] U))
  ⟨(Box.mk' h G w T).later (boxed _ _), cell_new (by simp) rfl, k.went b2, set_went hS b2⟩

set_option maxHeartbeats 1000000 in
theorem anyDead_any (h : Sh) (G : Gram) (L : List Int) (a : Option Addr) (c : Nat) (p d n : Nat) (B : Nat → Bool) (w : World) (k : GAt h G w) (hS : SetAt p d n B w) (ha : Sep.Reads a (ivs L) w) (hl : L.length ≤ 17592186044416) (hf : ∀ x ∈ L, x ≤ 9223372036854775807) :
    Calls Tryz.prog 56 #[gv h G, .slice a L.length c, .pointer (some ⟨p, 0, none⟩)] w (Is (.bool (L.any (deadB G B))) w) := by
  have K := Lib.hid (cap_new h G p d n B w 25 41 k hS)
  have b2 := Gr.step (boxed w (.cells #[.slice h.a1 G.terms.length h.c1, .slice h.a2 G.nons.length h.c2, .slice h.a3 G.rules.length h.c3, .int .i64 G.start] 25)) (boxed _ (.cells #[.pointer (some ⟨p, 0, none⟩)] 41))
  have HB0 := Lib.hid b2
  have C := Lib.hid (contains_dead _ _ p d n h G B L a c _ K.out (ha.below b2 (Nat.le_refl _)) hl hf)
  clear k hS ha hf b2 K
  unfold gv
  go_enter Tryz.func56, Tryz.ntmps56
  go_wp2_with (go_at_call 73; refine C.out.mono ?_; rintro e w1 ⟨rfl, hb⟩; have HB := Lib.hid (Gr.step HB0.out hb); clear hb)
  go_ret
  exact ⟨rfl, HB.out⟩

end Go.Proofs.YtljblpekpmgmaaaGreatDoor.Lv
