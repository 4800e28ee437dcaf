/-
  The plain answers' Same.
  Lists held against each other: of strings, of numbers, by the program's generic functions and by the plain answers.
  Two rules, two lists of rules, two grammars held against each other: by the program and by the plain answers.
-/
import Derived.Test.YtimfiaphhomelaaGreatGramOf
namespace Go.Proofs.YtimfiaphhomelaaGreat.Gr
open Go.RowKit Go.Maps
set_option linter.unusedVariables false

def sameI (L M : List Int) : Bool := decide (L = M)
def eqS (x y : ByteArray) : Bool := decide (x = y)
def eqI (x y : Int) : Bool := decide (x = y)

theorem lists_len {α : Type} {L M : List α} (h : L.length ≠ M.length) : ¬ L = M := fun e => h (by rw [e])
/-- The first k are the same. -/
def Alike {α : Type} (L M : List α) (k : Nat) : Prop := ∀ j (h1 : j < L.length) (h2 : j < M.length), j < k → L[j] = M[j]
theorem alike_zero {α : Type} (L M : List α) : Alike L M 0 := fun _ _ _ h => absurd h (by omega)
theorem alike_step {α : Type} {L M : List α} {k : Nat} (h : Alike L M k) (h1 : k < L.length) (h2 : k < M.length) (e : L[k] = M[k]) : Alike L M (k + 1) := fun j g1 g2 hj => by
  by_cases he : j = k
  · subst he
    exact e
  · exact h j g1 g2 (by omega)
theorem alike_end {α : Type} {L M : List α} {k : Nat} (h : Alike L M k) (hl : L.length = M.length) (hk : ¬ k < L.length) : L = M := List.ext_getElem hl fun i h1 h2 => h i h1 h2 (by omega)
theorem alike_fail {α : Type} {L M : List α} {k : Nat} (h1 : k < L.length) (h2 : k < M.length) (e : L[k] ≠ M[k]) : ¬ L = M := fun h => e (by subst h; rfl)
theorem reads_get {a : Option Addr} {xs : List Value} {w : World} {k n : Nat} {v : Value} (h : Sep.Reads a xs w) (hl : n = xs.length) (hk : k < n) (hv : xs[k]? = some v) : ∃ b o, a = some ⟨b, o, none⟩ ∧ w.cell? ⟨b, o + k, none⟩ = some v := by
  obtain ⟨b, o, e, hc⟩ := h k (by omega)
  refine ⟨b, o, e, hc.trans ?_⟩
  rw [List.getElem?_eq_getElem (by omega)] at hv
  exact hv

theorem bytes_eq (x : ByteArray) : (x.toList == x.toList) = true := by simp

theorem eqi_one (x y : Int) (w : World) : Calls Tryz.prog 120 #[.int .i64 x, .int .i64 y] w fun e w' => e = .returned (.bool (eqI x y)) ∧ w = w' := by
  go_enter Tryz.func120, Tryz.ntmps120
  go_wp2
  go_ret
  refine ⟨bool_of ?_, rfl⟩
  unfold eqI
  rw [Bool.eq_iff_iff]
  simp

set_option maxHeartbeats 1000000 in
theorem reqs_any (L M : List ByteArray) (a b : Option Addr) (c d : Nat) (w : World) (ha : Sep.Reads a (L.map .string) w) (hb : Sep.Reads b (M.map .string) w) (hl : L.length ≤ 17592186044416) (hm : M.length ≤ 17592186044416) :
    Calls Tryz.prog 30 #[.slice a L.length c, .slice b M.length d] w (Is (.bool (sameS L M)) w) := by
  have HA := Lib.hid ha
  have HB := Lib.hid hb
  clear ha hb
  by_cases hlen : L.length = M.length
  · have HL := Lib.hid hlen
    have hle : M.length ≤ L.length := by omega
    have hle' : L.length ≤ M.length := by omega
    have hlb : ((L.length : Int) != (M.length : Int)) = false := by simp [hlen]
    clear hlen
    go_enter Tryz.func30, Tryz.ntmps30
    go_wp2
    go_loopw [5] (fun i wr => ∃ k : Nat, k ≤ L.length ∧ i = .int .i64 k ∧ Alike L M k ∧ Below w.heap.size w wr) (fun i _ => L.length - (intOf i).toNat)
    case atStart => exact ⟨0, Nat.zero_le _, rfl, alike_zero _ _, .refl _ _⟩
    case round =>
      obtain ⟨k, hk, rfl, hA, hW⟩ := hrel
      have A := Lib.hid hA
      have HW := Lib.hid hW
      clear hA
      by_cases hlt : k < L.length
      · have hlm : k < M.length := by omega
        obtain ⟨b1, o1, rfl, h1⟩ := reads_get (v := .string L[k]) HA.out (by simp) hlt (by simp [hlt])
        obtain ⟨b2, o2, rfl, h2⟩ := reads_get (v := .string M[k]) HB.out (by simp) hlm (by simp [hlm])
        have k1 := cell_later hW h1
        have k2 := cell_later hW h2
        clear h1 h2 hW
        by_cases he : L[k] = M[k]
        · have A2 := Lib.hid (alike_step A.out hlt hlm he)
          rw [he] at k1
          clear he
          generalize M[k] = y at k1 k2
          go_wp2
          go_quiet (fail)
          go_wp2
          go_roundw
          case rel => exact ⟨k + 1, by omega, by go_num, A2.out, HW.out.trans ⟨rfl, rfl, rfl, Nat.le_refl _, fun _ _ => rfl⟩⟩
          case measure => simp [intOf]; omega
        · have F := Lib.hid (show sameS L M = false by simpa [sameS] using alike_fail hlt hlm he)
          have E := bytes_ne he
          clear he
          generalize L[k] = x at k1 E
          generalize M[k] = y at k2 E
          go_wp2
          go_quiet (fail)
          go_wp2
          go_ret
          exact ⟨bool_of F.out, HW.out.trans ⟨rfl, rfl, rfl, Nat.le_refl _, fun _ _ => rfl⟩⟩
      · have F := Lib.hid (show sameS L M = true by simpa [sameS] using alike_end A.out HL.out hlt)
        clear hW
        go_wp2
        go_ret
        exact ⟨bool_of F.out, HW.out⟩
  · have F := Lib.hid (show sameS L M = false by simpa [sameS] using lists_len hlen)
    have hlb : ((L.length : Int) != (M.length : Int)) = true := by simpa using fun h => hlen (by omega)
    clear hlen
    go_enter Tryz.func30, Tryz.ntmps30
    go_wp2
    go_ret
    exact ⟨bool_of F.out, .refl _ _⟩

set_option maxHeartbeats 1000000 in
theorem eqi_by (L M : List Int) (a b : Option Addr) (c d : Nat) (w : World) (ha : Sep.Reads a (ivs L) w) (hb : Sep.Reads b (ivs M) w) (hl : L.length ≤ 17592186044416) (hm : M.length ≤ 17592186044416) :
    Calls Tryz.prog 119 #[.slice a L.length c, .slice b M.length d, .func (.func 120) #[] #[]] w fun e w' => e = .returned (.bool (sameI L M)) ∧ w = w' := by
  have HA := Lib.hid ha
  have HB := Lib.hid hb
  clear ha hb
  by_cases hlen : L.length = M.length
  · have HL := Lib.hid hlen
    have hle : M.length ≤ L.length := by omega
    have hle' : L.length ≤ M.length := by omega
    have hlb : ((L.length : Int) != (M.length : Int)) = false := by simp [hlen]
    clear hlen
    go_enter Tryz.func119, Tryz.ntmps119
    go_wp2
    go_loop [16] (fun i => ∃ k : Nat, k ≤ L.length ∧ i = .int .i64 k ∧ Alike L M k) (fun i => L.length - (intOf i).toNat)
    case atStart => exact ⟨0, Nat.zero_le _, rfl, alike_zero _ _⟩
    case round =>
      obtain ⟨k, hk, rfl, hA⟩ := hrel
      have A := Lib.hid hA
      clear hA
      by_cases hlt : k < L.length
      · have hlm : k < M.length := by omega
        obtain ⟨b1, o1, rfl, h1⟩ := reads_get (v := .int .i64 L[k]) HA.out (by simp [ivs]) hlt (by simp [ivs, iv, hlt])
        obtain ⟨b2, o2, rfl, h2⟩ := reads_get (v := .int .i64 M[k]) HB.out (by simp [ivs]) hlm (by simp [ivs, iv, hlm])
        by_cases he : L[k] = M[k]
        · have A2 := Lib.hid (alike_step A.out hlt hlm he)
          have E := Lib.hid (show eqI L[k] M[k] = true by simp [eqI, he])
          clear he
          generalize L[k] = x at h1 E
          generalize M[k] = y at h2 E
          go_wp2_with (go_at_call 120; refine (eqi_one _ _ _).mono ?_; rw [E.out]; rintro e w1 ⟨rfl, rfl⟩)
          go_round
          case rel => exact ⟨k + 1, by omega, by go_num, A2.out⟩
          case measure => simp [intOf]; omega
        · have F := Lib.hid (show sameI L M = false by simpa [sameI] using alike_fail hlt hlm he)
          have E := Lib.hid (show eqI L[k] M[k] = false by simp [eqI, he])
          clear he
          generalize L[k] = x at h1 E
          generalize M[k] = y at h2 E
          go_wp2_with (go_at_call 120; refine (eqi_one _ _ _).mono ?_; rw [E.out]; rintro e w1 ⟨rfl, rfl⟩)
          go_ret
          exact ⟨bool_of F.out, rfl⟩
      · have F := Lib.hid (show sameI L M = true by simpa [sameI] using alike_end A.out HL.out hlt)
        go_wp2
        go_ret
        exact ⟨bool_of F.out, rfl⟩
  · have F := Lib.hid (show sameI L M = false by simpa [sameI] using lists_len hlen)
    have hlb : ((L.length : Int) != (M.length : Int)) = true := by simpa using fun h => hlen (by omega)
    clear hlen
    go_enter Tryz.func119, Tryz.ntmps119
    go_wp2
    go_ret
    exact ⟨bool_of F.out, rfl⟩

theorem eqi_any (L M : List Int) (a b : Option Addr) (c d : Nat) (w : World) (ha : Sep.Reads a (ivs L) w) (hb : Sep.Reads b (ivs M) w) (hl : L.length ≤ 17592186044416) (hm : M.length ≤ 17592186044416) :
    Calls Tryz.prog 100 #[.slice a L.length c, .slice b M.length d] w fun e w' => e = .returned (.bool (sameI L M)) ∧ w = w' := by
  have H := Lib.hid (eqi_by L M a b c d w ha hb hl hm)
  clear ha hb
  go_enter Tryz.func100, Tryz.ntmps100
  go_wp2_with (go_at_call 119; refine H.out.mono ?_; rintro e w1 ⟨rfl, rfl⟩)
  go_ret
  exact ⟨rfl, rfl⟩

set_option maxHeartbeats 1000000 in
theorem reqi_any (L M : List Int) (a b : Option Addr) (c d : Nat) (w : World) (ha : Sep.Reads a (ivs L) w) (hb : Sep.Reads b (ivs M) w) (hl : L.length ≤ 17592186044416) (hm : M.length ≤ 17592186044416) :
    Calls Tryz.prog 60 #[.slice a L.length c, .slice b M.length d] w (Is (.bool (sameI L M)) w) := by
  have HA := Lib.hid ha
  have HB := Lib.hid hb
  clear ha hb
  by_cases hlen : L.length = M.length
  · have HL := Lib.hid hlen
    have hle : M.length ≤ L.length := by omega
    have hle' : L.length ≤ M.length := by omega
    have hlb : ((L.length : Int) != (M.length : Int)) = false := by simp [hlen]
    clear hlen
    go_enter Tryz.func60, Tryz.ntmps60
    go_wp2
    go_loopw [5] (fun i wr => ∃ k : Nat, k ≤ L.length ∧ i = .int .i64 k ∧ Alike L M k ∧ Below w.heap.size w wr) (fun i _ => L.length - (intOf i).toNat)
    case atStart => exact ⟨0, Nat.zero_le _, rfl, alike_zero _ _, .refl _ _⟩
    case round =>
      obtain ⟨k, hk, rfl, hA, hW⟩ := hrel
      have A := Lib.hid hA
      have HW := Lib.hid hW
      clear hA
      by_cases hlt : k < L.length
      · have hlm : k < M.length := by omega
        obtain ⟨b1, o1, rfl, h1⟩ := reads_get (v := .int .i64 L[k]) HA.out (by simp [ivs]) hlt (by simp [ivs, iv, hlt])
        obtain ⟨b2, o2, rfl, h2⟩ := reads_get (v := .int .i64 M[k]) HB.out (by simp [ivs]) hlm (by simp [ivs, iv, hlm])
        have k1 := cell_later hW h1
        have k2 := cell_later hW h2
        clear h1 h2 hW
        by_cases he : L[k] = M[k]
        · have A2 := Lib.hid (alike_step A.out hlt hlm he)
          rw [he] at k1
          clear he
          generalize M[k] = y at k1 k2
          go_wp2
          go_quiet (fail)
          go_wp2
          go_roundw
          case rel => exact ⟨k + 1, by omega, by go_num, A2.out, HW.out.trans ⟨rfl, rfl, rfl, Nat.le_refl _, fun _ _ => rfl⟩⟩
          case measure => simp [intOf]; omega
        · have F := Lib.hid (show sameI L M = false by simpa [sameI] using alike_fail hlt hlm he)
          have E := (show (L[k] != M[k]) = true by simpa using he)
          clear he
          generalize L[k] = x at k1 E
          generalize M[k] = y at k2 E
          go_wp2
          go_quiet (fail)
          go_wp2
          go_ret
          exact ⟨bool_of F.out, HW.out.trans ⟨rfl, rfl, rfl, Nat.le_refl _, fun _ _ => rfl⟩⟩
      · have F := Lib.hid (show sameI L M = true by simpa [sameI] using alike_end A.out HL.out hlt)
        clear hW
        go_wp2
        go_ret
        exact ⟨bool_of F.out, HW.out⟩
  · have F := Lib.hid (show sameI L M = false by simpa [sameI] using lists_len hlen)
    have hlb : ((L.length : Int) != (M.length : Int)) = true := by simpa using fun h => hlen (by omega)
    clear hlen
    go_enter Tryz.func60, Tryz.ntmps60
    go_wp2
    go_ret
    exact ⟨bool_of F.out, .refl _ _⟩

end Go.Proofs.YtimfiaphhomelaaGreat.Gr

namespace Go.Proofs.YtimfiaphhomelaaGreat.Gr
open Go.RowKit Go.Maps
set_option linter.unusedVariables false

set_option maxHeartbeats 1000000 in
theorem samer_any (r q : Int × List Int) (a b : Option Addr) (c d : Nat) (w : World) (ha : Sep.Reads a (ivs r.2) w) (hb : Sep.Reads b (ivs q.2) w) (hl : r.2.length ≤ 17592186044416) (hm : q.2.length ≤ 17592186044416) :
    Calls Tryz.prog 71 #[.agg #[.int .i64 r.1, .slice a r.2.length c], .agg #[.int .i64 q.1, .slice b q.2.length d]] w (Is (.bool (sameR r q)) w) := by
  have H := Lib.hid (fun w1 (k : Below w.heap.size w w1) => eqi_any r.2 q.2 a b c d w1 (ha.below k (Nat.le_refl _)) (hb.below k (Nat.le_refl _)) hl hm)
  have X := Lib.hid (fun o1 o2 => step (boxed w o1) (boxed (w.alloc o1) o2))
  clear ha hb
  by_cases h1 : r.1 = q.1
  · have E := Lib.hid (show sameR r q = sameI r.2 q.2 by simp [sameR, h1, sameI])
    rw [h1]
    clear h1
    go_enter Tryz.func71, Tryz.ntmps71
    go_wp2_with (go_at_call 100; refine (H.out _ (X.out _ _)).mono ?_; rintro e w1 ⟨rfl, rfl⟩)
    go_ret
    exact ⟨bool_of E.out, X.out _ _⟩
  · have E := Lib.hid (show sameR r q = false by simp [sameR, h1])
    have h2 : (r.1 == q.1) = false := by simpa using h1
    clear h1
    go_enter Tryz.func71, Tryz.ntmps71
    go_wp2
    go_ret
    exact ⟨bool_of E.out, X.out _ _⟩

set_option maxHeartbeats 1000000 in
theorem rsamer_any (r q : Int × List Int) (a b : Option Addr) (c d : Nat) (w : World) (ha : Sep.Reads a (ivs r.2) w) (hb : Sep.Reads b (ivs q.2) w) (hl : r.2.length ≤ 17592186044416) (hm : q.2.length ≤ 17592186044416) :
    Calls Tryz.prog 31 #[.agg #[.int .i64 r.1, .slice a r.2.length c], .agg #[.int .i64 q.1, .slice b q.2.length d]] w (Is (.bool (sameR r q)) w) := by
  have H := Lib.hid (fun w1 (k : Below w.heap.size w w1) => reqi_any r.2 q.2 a b c d w1 (ha.below k (Nat.le_refl _)) (hb.below k (Nat.le_refl _)) hl hm)
  have X := Lib.hid (fun o1 o2 => step (boxed w o1) (boxed (w.alloc o1) o2))
  clear ha hb
  by_cases h1 : r.1 = q.1
  · have E := Lib.hid (show sameR r q = sameI r.2 q.2 by simp [sameR, h1, sameI])
    rw [h1]
    clear h1
    go_enter Tryz.func31, Tryz.ntmps31
    go_wp2_with (go_at_call 60; refine (H.out _ (X.out _ _)).mono ?_; rintro e w1 ⟨rfl, hb⟩; have HB := Lib.hid (step (X.out _ _) hb); clear hb)
    go_ret
    exact ⟨bool_of E.out, HB.out⟩
  · have E := Lib.hid (show sameR r q = false by simp [sameR, h1])
    have h2 : (r.1 == q.1) = false := by simpa using h1
    clear h1
    go_enter Tryz.func31, Tryz.ntmps31
    go_wp2
    go_ret
    exact ⟨bool_of E.out, X.out _ _⟩

/-- Four cells that stay, and that only new blocks are made. -/
def Four (w : World) (p1 p2 p3 p4 : Addr) (v1 v2 v3 v4 : Value) : Prop :=
  ∀ w', Below w.heap.size w w' → w'.cell? p1 = some v1 ∧ w'.cell? p2 = some v2 ∧ w'.cell? p3 = some v3 ∧ w'.cell? p4 = some v4 ∧ Below w.heap.size w w'
theorem four {w : World} {p1 p2 p3 p4 : Addr} {v1 v2 v3 v4 : Value} (h1 : w.cell? p1 = some v1) (h2 : w.cell? p2 = some v2) (h3 : w.cell? p3 = some v3) (h4 : w.cell? p4 = some v4) : Four w p1 p2 p3 p4 v1 v2 v3 v4 :=
  fun _ hb => ⟨cell_later hb h1, cell_later hb h2, cell_later hb h3, cell_later hb h4, hb⟩

/-- What both sides' Same need of two grammars. -/
theorem sameG_parts (G H : Gram) : sameG G H = (G.start == H.start && sameS G.terms H.terms && sameS G.nons H.nons && sameRs G.rules H.rules) := rfl

end Go.Proofs.YtimfiaphhomelaaGreat.Gr

namespace Go.Proofs.YtimfiaphhomelaaGreat.Gr
open Go.RowKit Go.Maps
set_option linter.unusedVariables false

/-- Behind the boxes of two grammars, made first. -/
structure B2 (W : World) (h l : Sh) (G H : Gram) (w : World) : Prop where
  below : Below W.heap.size W w
  b1 : Box W.heap.size h G w
  b2 : Box (W.heap.size + 1) l H w
theorem B2.start (h l : Sh) (G H : Gram) (w : World) (T : TypeId) :
    B2 w h l G H ((w.alloc (.cells #[.slice h.a1 G.terms.length h.c1, .slice h.a2 G.nons.length h.c2, .slice h.a3 G.rules.length h.c3, .int .i64 G.start] T)).alloc (.cells #[.slice l.a1 H.terms.length l.c1, .slice l.a2 H.nons.length l.c2, .slice l.a3 H.rules.length l.c3, .int .i64 H.start] T)) :=
  ⟨step (boxed _ _) (boxed _ _), (Box.mk' h G w T).later (boxed _ _), ⟨cell_new (by simp) rfl, cell_new (by simp) rfl, cell_new (by simp) rfl, cell_new (by simp) rfl⟩⟩
theorem B2.went {W : World} {h l : Sh} {G H : Gram} {w w' : World} (k : B2 W h l G H w) (hb : Below w.heap.size w w') : B2 W h l G H w' := ⟨step k.below hb, k.b1.later hb, k.b2.later hb⟩

/-- Six cells that stay, and that only new blocks are made. -/
def Six (w : World) (p1 p2 p3 p4 p5 p6 : Addr) (v1 v2 v3 v4 v5 v6 : Value) : Prop :=
  ∀ w', Below w.heap.size w w' → w'.cell? p1 = some v1 ∧ w'.cell? p2 = some v2 ∧ w'.cell? p3 = some v3 ∧ w'.cell? p4 = some v4 ∧ w'.cell? p5 = some v5 ∧ w'.cell? p6 = some v6 ∧ Below w.heap.size w w'
theorem six {w : World} {p1 p2 p3 p4 p5 p6 : Addr} {v1 v2 v3 v4 v5 v6 : Value} (h1 : w.cell? p1 = some v1) (h2 : w.cell? p2 = some v2) (h3 : w.cell? p3 = some v3) (h4 : w.cell? p4 = some v4) (h5 : w.cell? p5 = some v5) (h6 : w.cell? p6 = some v6) : Six w p1 p2 p3 p4 p5 p6 v1 v2 v3 v4 v5 v6 :=
  fun _ hb => ⟨cell_later hb h1, cell_later hb h2, cell_later hb h3, cell_later hb h4, cell_later hb h5, cell_later hb h6, hb⟩

set_option maxHeartbeats 4000000 in
theorem rsame_any (h l : Sh) (G H : Gram) (w : World) (k : GAt h G w) (m : GAt l H w) :
    Calls Tryz.prog 11 #[gv h G, gv l H] w (Is (.bool (sameG G H)) w) := by
  have X := Lib.hid (B2.start h l G H w 25)
  have k2 := k.t2; have k4 := k.n2; have k5 := k.r1; have k6 := k.r2
  have m2 := m.t2; have m4 := m.n2; have m5 := m.r1; have m6 := m.r2
  have T := Lib.hid (fun w1 (b : Below w.heap.size w w1) => reqs_any G.terms H.terms h.a1 l.a1 h.c1 l.c1 w1 (k.went b).terms (m.went b).terms (by omega) (by omega))
  have N := Lib.hid (fun w1 (b : Below w.heap.size w w1) => reqs_any G.nons H.nons h.a2 l.a2 h.c2 l.c2 w1 (k.went b).nons (m.went b).nons (by omega) (by omega))
  have HA := Lib.hid (fun w1 (b : Below w.heap.size w w1) => (k.went b).rules)
  have HB := Lib.hid (fun w1 (b : Below w.heap.size w w1) => (m.went b).rules)
  have hR : G.rules.length ≤ 4398046511104 := by omega
  have hQ : H.rules.length ≤ 4398046511104 := by omega
  clear k m k2 k4 k5 k6 m2 m4 m5 m6
  have E := Lib.hid (sameG_parts G H)
  unfold gv
  generalize sameS G.terms H.terms = b1 at *
  generalize sameS G.nons H.nons = b2 at *
  cases b1 with
  | false =>
    rw [Bool.and_false, Bool.false_and, Bool.false_and] at E
    go_enter Tryz.func11, Tryz.ntmps11
    go_wp2_with (go_at_call 30; ((with_reducible refine (T.out _ X.out.below).mono ?_)); rintro e w1 ⟨rfl, hb⟩; have X := Lib.hid (X.out.went hb); clear hb)
    go_ret
    exact ⟨bool_of E.out, X.out.below⟩
  | true =>
    cases b2 with
    | false =>
      rw [Bool.and_false, Bool.false_and] at E
      go_enter Tryz.func11, Tryz.ntmps11
      go_wp2_with (first
        | (go_at_call 30; ((with_reducible refine (T.out _ X.out.below).mono ?_)); rintro e w1 ⟨rfl, hb⟩; have X := Lib.hid (X.out.went hb); obtain ⟨x0, x1, x2, x3⟩ := X.out.b1; obtain ⟨y0, y1, y2, y3⟩ := X.out.b2; clear hb)
        | (go_at_call 30; ((with_reducible refine (N.out _ X.out.below).mono ?_)); rintro e w1 ⟨rfl, hb⟩; have X := Lib.hid (X.out.went hb); clear hb))
      go_ret
      exact ⟨bool_of E.out, X.out.below⟩
    | true =>
      rw [Bool.and_true, Bool.and_true] at E
      by_cases h0 : G.start = H.start
      · have h3 : (G.start != H.start) = false := by simpa using h0
        rw [show (G.start == H.start) = true by simpa using h0, Bool.true_and] at E
        clear h0
        by_cases hlen : G.rules.length = H.rules.length
        · have HL := Lib.hid hlen
          have hle : H.rules.length ≤ G.rules.length := by omega
          have hle' : G.rules.length ≤ H.rules.length := by omega
          have hlb : ((G.rules.length : Int) != (H.rules.length : Int)) = false := by simp [hlen]
          clear hlen
          go_enter Tryz.func11, Tryz.ntmps11
          go_wp2_with (first
            | (go_at_call 30; ((with_reducible refine (T.out _ X.out.below).mono ?_)); rintro e w1 ⟨rfl, hb⟩; have X := Lib.hid (X.out.went hb); obtain ⟨x0, x1, x2, x3⟩ := X.out.b1; obtain ⟨y0, y1, y2, y3⟩ := X.out.b2; clear hb)
            | (go_at_call 30; ((with_reducible refine (N.out _ X.out.below).mono ?_)); rintro e w1 ⟨rfl, hb⟩; have X := Lib.hid (X.out.went hb); obtain ⟨x0, x1, x2, x3⟩ := X.out.b1; obtain ⟨y0, y1, y2, y3⟩ := X.out.b2; clear hb))
          obtain ⟨a1, c1, a2, c2, a3, c3⟩ := h
          obtain ⟨e1, d1, e2, d2, e3, d3⟩ := l
          dsimp only at HA HB ⊢
          clear T N x0 x1 x2 x3 y0 y1 y2 y3
          go_loopw [5] (fun i wr => ∃ k : Nat, k ≤ G.rules.length ∧ i = .int .i64 k ∧ Alike G.rules H.rules k ∧ B2 w ⟨a1, c1, a2, c2, a3, c3⟩ ⟨e1, d1, e2, d2, e3, d3⟩ G H wr) (fun i _ => G.rules.length - (intOf i).toNat)
          case atStart => exact ⟨0, Nat.zero_le _, rfl, alike_zero _ _, X.out⟩
          case round =>
            clear X
            obtain ⟨k, hk, rfl, hA, hX⟩ := hrel
            have A := Lib.hid hA
            have X := Lib.hid hX
            clear hA hX
            by_cases hlt : k < G.rules.length
            · have hlm : k < H.rules.length := by omega
              obtain ⟨b1, o1, ra, rc, rfl, h1, h2, h3, h4, h5⟩ := HA.out _ X.out.below k hlt
              obtain ⟨b2, o2, rb, rd, rfl, g1, g2, g3, g4, g5⟩ := HB.out _ X.out.below k hlm
              have AE := Lib.hid (fun he => alike_step A.out hlt hlm he)
              have AF := Lib.hid (fun he => show sameRs G.rules H.rules = false by simpa [sameRs] using alike_fail hlt hlm he)
              generalize G.rules[k] = r at h1 h2 h3 h4 h5 AE AF
              generalize H.rules[k] = q at g1 g2 g3 g4 g5 AE AF
              have HC := Lib.hid (fun w1 (k : Below wr.heap.size wr w1) => rsamer_any r q ra rb rc rd w1 (Sep.Reads.below h3 k (Nat.le_refl _)) (Sep.Reads.below g3 k (Nat.le_refl _)) (by omega) (by omega))
              have x2 := X.out.b1.x2
              have y2 := X.out.b2.x2
              dsimp only at x2 y2
              have HQ := Lib.hid (six x2 y2 h1 h2 g1 g2)
              clear h3 g3 h4 g4 h5 g5 h1 h2 g1 g2
              have hbd := drawn wr
              go_wp2
              clear x2 y2
              go_region_held3 (fun w' => w'.cell? ⟨w.heap.size, 2, none⟩ = some (.slice (some ⟨b1, o1, none⟩) G.rules.length c3) ∧ w'.cell? ⟨w.heap.size + 1, 2, none⟩ = some (.slice (some ⟨b2, o2, none⟩) H.rules.length d3) ∧
                  w'.cell? ⟨b1, o1 + k * 2, none⟩ = some (.int .i64 r.1) ∧ w'.cell? ⟨b1, o1 + k * 2 + 1, none⟩ = some (.slice ra r.2.length rc) ∧ w'.cell? ⟨b2, o2 + k * 2, none⟩ = some (.int .i64 q.1) ∧ w'.cell? ⟨b2, o2 + k * 2 + 1, none⟩ = some (.slice rb q.2.length rd) ∧ Below wr.heap.size wr w')
                (exact HQ.out _ (by assumption))
                (first
                  | (go_at_call 31; refine (HC.out _ hbd).mono ?_; rintro e wn ⟨rfl, hb⟩; have kB : Below wr.heap.size wr wn := step hbd hb; clear hb)
                  | fail)
              cases hs : sameR r q with
              | true =>
                have A2 := Lib.hid (AE.out (sameR_iff.1 hs))
                clear hs
                go_wp2
                go_roundw
                case rel => exact ⟨k + 1, by omega, by go_num, A2.out, X.out.went kB⟩
                case measure => simp [intOf]; omega
              | false =>
                have F := Lib.hid (AF.out (sameR_false.1 hs))
                clear hs
                go_wp2
                go_ret
                exact ⟨bool_of (by rw [E.out]; exact F.out), step X.out.below kB⟩
            · have F := Lib.hid (show sameRs G.rules H.rules = true by simpa [sameRs] using alike_end A.out HL.out hlt)
              obtain ⟨x0, x1, x2, x3⟩ := X.out.b1
              obtain ⟨y0, y1, y2, y3⟩ := X.out.b2
              go_wp2
              go_ret
              exact ⟨bool_of (by rw [E.out]; exact F.out), X.out.below⟩
        · rw [show sameRs G.rules H.rules = false by simpa [sameRs] using lists_len hlen] at E
          have hlb : ((G.rules.length : Int) != (H.rules.length : Int)) = true := by simpa using fun h => hlen (by omega)
          clear hlen
          go_enter Tryz.func11, Tryz.ntmps11
          go_wp2_with (first
            | (go_at_call 30; ((with_reducible refine (T.out _ X.out.below).mono ?_)); rintro e w1 ⟨rfl, hb⟩; have X := Lib.hid (X.out.went hb); obtain ⟨x0, x1, x2, x3⟩ := X.out.b1; obtain ⟨y0, y1, y2, y3⟩ := X.out.b2; clear hb)
            | (go_at_call 30; ((with_reducible refine (N.out _ X.out.below).mono ?_)); rintro e w1 ⟨rfl, hb⟩; have X := Lib.hid (X.out.went hb); obtain ⟨x0, x1, x2, x3⟩ := X.out.b1; obtain ⟨y0, y1, y2, y3⟩ := X.out.b2; clear hb))
          go_ret
          exact ⟨bool_of E.out, X.out.below⟩
      · have h2 : (G.start == H.start) = false := by simpa using h0
        have h3 : (G.start != H.start) = true := by simpa using h0
        rw [h2, Bool.false_and] at E
        clear h0
        go_enter Tryz.func11, Tryz.ntmps11
        go_wp2_with (first
          | (go_at_call 30; ((with_reducible refine (T.out _ X.out.below).mono ?_)); rintro e w1 ⟨rfl, hb⟩; have X := Lib.hid (X.out.went hb); obtain ⟨x0, x1, x2, x3⟩ := X.out.b1; obtain ⟨y0, y1, y2, y3⟩ := X.out.b2; clear hb)
          | (go_at_call 30; ((with_reducible refine (N.out _ X.out.below).mono ?_)); rintro e w1 ⟨rfl, hb⟩; have X := Lib.hid (X.out.went hb); obtain ⟨x0, x1, x2, x3⟩ := X.out.b1; obtain ⟨y0, y1, y2, y3⟩ := X.out.b2; clear hb))
        go_ret
        exact ⟨bool_of E.out, X.out.below⟩

end Go.Proofs.YtimfiaphhomelaaGreat.Gr
