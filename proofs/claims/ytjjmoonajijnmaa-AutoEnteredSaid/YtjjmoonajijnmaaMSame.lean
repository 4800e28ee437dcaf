/-
  The plain answers' Same.
  Lists held against each other: of strings, of numbers, by the program's generic functions and by the plain answers.
  Two rules, two lists of rules, two grammars held against each other: by the program and by the plain answers.
-/
import Derived.Test.YtjjmoonajijnmaaGramOf
namespace Go.Proofs.Ytjjmoonajijnmaa.Gr
open Go.RowKit Go.Maps
set_option linter.unusedVariables false

def sameI (L M : List Int) : Bool := decide (L = M)
def eqS (x y : ByteArray) : Bool := decide (x = y)
def eqI (x y : Int) : Bool := decide (x = y)

theorem lists_len {α : Type} {L M : List α} (h : L.length ≠ M.length) : ¬ L = M := fun e => h (by rw [e])
/-- The first k are the same. -/
def Alike {α : Type} (L M : List α) (k : Nat) : Prop := ∀ j (h1 : j < L.length) (h2 : j < M.length), j < k → L[j] = M[j]
theorem alike_zero {α : Type} (L M : List α) : Alike L M 0 := fun _ _ _ h => absurd h (by omega)
theorem alike_step {α : Type} {L M : List α} {k : Nat} (h : Alike L M k) (h1 : k < L.length) (h2 : k < M.length) (e : L[k] = M[k]) : Alike L M (k + 1) := fun j g1 g2 hj => by
  by_cases he : j = k
  · subst he
    exact e
  · exact h j g1 g2 (by omega)
theorem alike_end {α : Type} {L M : List α} {k : Nat} (h : Alike L M k) (hl : L.length = M.length) (hk : ¬ k < L.length) : L = M := List.ext_getElem hl fun i h1 h2 => h i h1 h2 (by omega)
theorem alike_fail {α : Type} {L M : List α} {k : Nat} (h1 : k < L.length) (h2 : k < M.length) (e : L[k] ≠ M[k]) : ¬ L = M := fun h => e (by subst h; rfl)
theorem reads_get {a : Option Addr} {xs : List Value} {w : World} {k n : Nat} {v : Value} (h : Sep.Reads a xs w) (hl : n = xs.length) (hk : k < n) (hv : xs[k]? = some v) : ∃ b o, a = some ⟨b, o, none⟩ ∧ w.cell? ⟨b, o + k, none⟩ = some v := by
  obtain ⟨b, o, e, hc⟩ := h k (by omega)
  refine ⟨b, o, e, hc.trans ?_⟩
  rw [List.getElem?_eq_getElem (by omega)] at hv
  exact hv

theorem bytes_eq (x : ByteArray) : (x.toList == x.toList) = true := by simp

theorem eqi_one (x y : Int) (w : World) : Calls Try.prog 73 #[.int .i64 x, .int .i64 y] w fun e w' => e = .returned (.bool (eqI x y)) ∧ w = w' := by
  go_enter Try.func73, Try.ntmps73
  go_wp2
  go_ret
  refine ⟨bool_of ?_, rfl⟩
  unfold eqI
  rw [Bool.eq_iff_iff]
  simp

set_option maxHeartbeats 1000000 in
theorem eqi_by (L M : List Int) (a b : Option Addr) (c d : Nat) (w : World) (ha : Sep.Reads a (ivs L) w) (hb : Sep.Reads b (ivs M) w) (hl : L.length ≤ 17592186044416) (hm : M.length ≤ 17592186044416) :
    Calls Try.prog 72 #[.slice a L.length c, .slice b M.length d, .func (.func 73) #[] #[]] w fun e w' => e = .returned (.bool (sameI L M)) ∧ w = w' := by
  have HA := Lib.hid ha
  have HB := Lib.hid hb
  clear ha hb
  by_cases hlen : L.length = M.length
  · have HL := Lib.hid hlen
    have hle : M.length ≤ L.length := by omega
    have hle' : L.length ≤ M.length := by omega
    have hlb : ((L.length : Int) != (M.length : Int)) = false := by simp [hlen]
    clear hlen
    go_enter Try.func72, Try.ntmps72
    go_wp2
    go_loop [16] (fun i => ∃ k : Nat, k ≤ L.length ∧ i = .int .i64 k ∧ Alike L M k) (fun i => L.length - (intOf i).toNat)
    case atStart => exact ⟨0, Nat.zero_le _, rfl, alike_zero _ _⟩
    case round =>
      obtain ⟨k, hk, rfl, hA⟩ := hrel
      have A := Lib.hid hA
      clear hA
      by_cases hlt : k < L.length
      · have hlm : k < M.length := by omega
        obtain ⟨b1, o1, rfl, h1⟩ := reads_get (v := .int .i64 L[k]) HA.out (by simp [ivs]) hlt (by simp [ivs, iv, hlt])
        obtain ⟨b2, o2, rfl, h2⟩ := reads_get (v := .int .i64 M[k]) HB.out (by simp [ivs]) hlm (by simp [ivs, iv, hlm])
        by_cases he : L[k] = M[k]
        · have A2 := Lib.hid (alike_step A.out hlt hlm he)
          have E := Lib.hid (show eqI L[k] M[k] = true by simp [eqI, he])
          clear he
          generalize L[k] = x at h1 E
          generalize M[k] = y at h2 E
          go_wp2_with (go_at_call 73; refine (eqi_one _ _ _).mono ?_; rw [E.out]; rintro e w1 ⟨rfl, rfl⟩)
          go_round
          case rel => exact ⟨k + 1, by omega, by go_num, A2.out⟩
          case measure => simp [intOf]; omega
        · have F := Lib.hid (show sameI L M = false by simpa [sameI] using alike_fail hlt hlm he)
          have E := Lib.hid (show eqI L[k] M[k] = false by simp [eqI, he])
          clear he
          generalize L[k] = x at h1 E
          generalize M[k] = y at h2 E
          go_wp2_with (go_at_call 73; refine (eqi_one _ _ _).mono ?_; rw [E.out]; rintro e w1 ⟨rfl, rfl⟩)
          go_ret
          exact ⟨bool_of F.out, rfl⟩
      · have F := Lib.hid (show sameI L M = true by simpa [sameI] using alike_end A.out HL.out hlt)
        go_wp2
        go_ret
        exact ⟨bool_of F.out, rfl⟩
  · have F := Lib.hid (show sameI L M = false by simpa [sameI] using lists_len hlen)
    have hlb : ((L.length : Int) != (M.length : Int)) = true := by simpa using fun h => hlen (by omega)
    clear hlen
    go_enter Try.func72, Try.ntmps72
    go_wp2
    go_ret
    exact ⟨bool_of F.out, rfl⟩

theorem eqi_any (L M : List Int) (a b : Option Addr) (c d : Nat) (w : World) (ha : Sep.Reads a (ivs L) w) (hb : Sep.Reads b (ivs M) w) (hl : L.length ≤ 17592186044416) (hm : M.length ≤ 17592186044416) :
    Calls Try.prog 61 #[.slice a L.length c, .slice b M.length d] w fun e w' => e = .returned (.bool (sameI L M)) ∧ w = w' := by
  have H := Lib.hid (eqi_by L M a b c d w ha hb hl hm)
  clear ha hb
  go_enter Try.func61, Try.ntmps61
  go_wp2_with (go_at_call 72; refine H.out.mono ?_; rintro e w1 ⟨rfl, rfl⟩)
  go_ret
  exact ⟨rfl, rfl⟩

end Go.Proofs.Ytjjmoonajijnmaa.Gr

namespace Go.Proofs.Ytjjmoonajijnmaa.Gr
open Go.RowKit Go.Maps
set_option linter.unusedVariables false

set_option maxHeartbeats 1000000 in
theorem samer_any (r q : Int × List Int) (a b : Option Addr) (c d : Nat) (w : World) (ha : Sep.Reads a (ivs r.2) w) (hb : Sep.Reads b (ivs q.2) w) (hl : r.2.length ≤ 17592186044416) (hm : q.2.length ≤ 17592186044416) :
    Calls Try.prog 52 #[.agg #[.int .i64 r.1, .slice a r.2.length c], .agg #[.int .i64 q.1, .slice b q.2.length d]] w (Is (.bool (sameR r q)) w) := by
  have H := Lib.hid (fun w1 (k : Below w.heap.size w w1) => eqi_any r.2 q.2 a b c d w1 (ha.below k (Nat.le_refl _)) (hb.below k (Nat.le_refl _)) hl hm)
  have X := Lib.hid (fun o1 o2 => step (boxed w o1) (boxed (w.alloc o1) o2))
  clear ha hb
  by_cases h1 : r.1 = q.1
  · have E := Lib.hid (show sameR r q = sameI r.2 q.2 by simp [sameR, h1, sameI])
    rw [h1]
    clear h1
    go_enter Try.func52, Try.ntmps52
    go_wp2_with (go_at_call 61; refine (H.out _ (X.out _ _)).mono ?_; rintro e w1 ⟨rfl, rfl⟩)
    go_ret
    exact ⟨bool_of E.out, X.out _ _⟩
  · have E := Lib.hid (show sameR r q = false by simp [sameR, h1])
    have h2 : (r.1 == q.1) = false := by simpa using h1
    clear h1
    go_enter Try.func52, Try.ntmps52
    go_wp2
    go_ret
    exact ⟨bool_of E.out, X.out _ _⟩

/-- Four cells that stay, and that only new blocks are made. -/
def Four (w : World) (p1 p2 p3 p4 : Addr) (v1 v2 v3 v4 : Value) : Prop :=
  ∀ w', Below w.heap.size w w' → w'.cell? p1 = some v1 ∧ w'.cell? p2 = some v2 ∧ w'.cell? p3 = some v3 ∧ w'.cell? p4 = some v4 ∧ Below w.heap.size w w'
theorem four {w : World} {p1 p2 p3 p4 : Addr} {v1 v2 v3 v4 : Value} (h1 : w.cell? p1 = some v1) (h2 : w.cell? p2 = some v2) (h3 : w.cell? p3 = some v3) (h4 : w.cell? p4 = some v4) : Four w p1 p2 p3 p4 v1 v2 v3 v4 :=
  fun _ hb => ⟨cell_later hb h1, cell_later hb h2, cell_later hb h3, cell_later hb h4, hb⟩

/-- What both sides' Same need of two grammars. -/
theorem sameG_parts (G H : Gram) : sameG G H = (G.start == H.start && sameS G.terms H.terms && sameS G.nons H.nons && sameRs G.rules H.rules) := rfl

end Go.Proofs.Ytjjmoonajijnmaa.Gr

namespace Go.Proofs.Ytjjmoonajijnmaa.Gr
open Go.RowKit Go.Maps
set_option linter.unusedVariables false

/-- Behind the boxes of two grammars, made first. -/
structure B2 (W : World) (h l : Sh) (G H : Gram) (w : World) : Prop where
  below : Below W.heap.size W w
  b1 : Box W.heap.size h G w
  b2 : Box (W.heap.size + 1) l H w
theorem B2.start (h l : Sh) (G H : Gram) (w : World) (T : TypeId) :
    B2 w h l G H ((w.alloc (.cells #[.slice h.a1 G.terms.length h.c1, .slice h.a2 G.nons.length h.c2, .slice h.a3 G.rules.length h.c3, .int .i64 G.start] T)).alloc (.cells #[.slice l.a1 H.terms.length l.c1, .slice l.a2 H.nons.length l.c2, .slice l.a3 H.rules.length l.c3, .int .i64 H.start] T)) :=
  ⟨step (boxed _ _) (boxed _ _), (Box.mk' h G w T).later (boxed _ _), ⟨cell_new (by simp) rfl, cell_new (by simp) rfl, cell_new (by simp) rfl, cell_new (by simp) rfl⟩⟩
theorem B2.went {W : World} {h l : Sh} {G H : Gram} {w w' : World} (k : B2 W h l G H w) (hb : Below w.heap.size w w') : B2 W h l G H w' := ⟨step k.below hb, k.b1.later hb, k.b2.later hb⟩

/-- Six cells that stay, and that only new blocks are made. -/
def Six (w : World) (p1 p2 p3 p4 p5 p6 : Addr) (v1 v2 v3 v4 v5 v6 : Value) : Prop :=
  ∀ w', Below w.heap.size w w' → w'.cell? p1 = some v1 ∧ w'.cell? p2 = some v2 ∧ w'.cell? p3 = some v3 ∧ w'.cell? p4 = some v4 ∧ w'.cell? p5 = some v5 ∧ w'.cell? p6 = some v6 ∧ Below w.heap.size w w'
theorem six {w : World} {p1 p2 p3 p4 p5 p6 : Addr} {v1 v2 v3 v4 v5 v6 : Value} (h1 : w.cell? p1 = some v1) (h2 : w.cell? p2 = some v2) (h3 : w.cell? p3 = some v3) (h4 : w.cell? p4 = some v4) (h5 : w.cell? p5 = some v5) (h6 : w.cell? p6 = some v6) : Six w p1 p2 p3 p4 p5 p6 v1 v2 v3 v4 v5 v6 :=
  fun _ hb => ⟨cell_later hb h1, cell_later hb h2, cell_later hb h3, cell_later hb h4, cell_later hb h5, cell_later hb h6, hb⟩

end Go.Proofs.Ytjjmoonajijnmaa.Gr
