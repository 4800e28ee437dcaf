/-
  Two rules, two lists of rules, two grammars held against each other: by the program and by the plain answers.
-/
import Derived.Test.YtflljgakdakfdaaGramEq
namespace Go.Proofs.Ytflljgakdakfdaa.Gr
open Go.RowKit Go.Maps
set_option linter.unusedVariables false

set_option maxHeartbeats 1000000 in
theorem samer_any (r q : Int × List Int) (a b : Option Addr) (c d : Nat) (w : World) (ha : Sep.Reads a (ivs r.2) w) (hb : Sep.Reads b (ivs q.2) w) (hl : r.2.length ≤ 17592186044416) (hm : q.2.length ≤ 17592186044416) :
    Calls Try.prog 46 #[.agg #[.int .i64 r.1, .slice a r.2.length c], .agg #[.int .i64 q.1, .slice b q.2.length d]] w (Is (.bool (sameR r q)) w) := by
  have H := Lib.hid (fun w1 (k : Below w.heap.size w w1) => eqi_any r.2 q.2 a b c d w1 (ha.below k (Nat.le_refl _)) (hb.below k (Nat.le_refl _)) hl hm)
  have X := Lib.hid (fun o1 o2 => step (boxed w o1) (boxed (w.alloc o1) o2))
  clear ha hb
  by_cases h1 : r.1 = q.1
  · have E := Lib.hid (show sameR r q = sameI r.2 q.2 by simp [sameR, h1, sameI])
    rw [h1]
    clear h1
    go_enter Try.func46, Try.ntmps46
    go_wp2_with (go_at_call 57; refine (H.out _ (X.out _ _)).mono ?_; rintro e w1 ⟨rfl, rfl⟩)
    go_ret
    exact ⟨bool_of E.out, X.out _ _⟩
  · have E := Lib.hid (show sameR r q = false by simp [sameR, h1])
    have h2 : (r.1 == q.1) = false := by simpa using h1
    clear h1
    go_enter Try.func46, Try.ntmps46
    go_wp2
    go_ret
    exact ⟨bool_of E.out, X.out _ _⟩

set_option maxHeartbeats 1000000 in
theorem rsamer_any (r q : Int × List Int) (a b : Option Addr) (c d : Nat) (w : World) (ha : Sep.Reads a (ivs r.2) w) (hb : Sep.Reads b (ivs q.2) w) (hl : r.2.length ≤ 17592186044416) (hm : q.2.length ≤ 17592186044416) :
    Calls Try.prog 18 #[.agg #[.int .i64 r.1, .slice a r.2.length c], .agg #[.int .i64 q.1, .slice b q.2.length d]] w (Is (.bool (sameR r q)) w) := by
  have H := Lib.hid (fun w1 (k : Below w.heap.size w w1) => reqi_any r.2 q.2 a b c d w1 (ha.below k (Nat.le_refl _)) (hb.below k (Nat.le_refl _)) hl hm)
  have X := Lib.hid (fun o1 o2 => step (boxed w o1) (boxed (w.alloc o1) o2))
  clear ha hb
  by_cases h1 : r.1 = q.1
  · have E := Lib.hid (show sameR r q = sameI r.2 q.2 by simp [sameR, h1, sameI])
    rw [h1]
    clear h1
    go_enter Try.func18, Try.ntmps18
    go_wp2_with (go_at_call 23; refine (H.out _ (X.out _ _)).mono ?_; rintro e w1 ⟨rfl, hb⟩; have HB := Lib.hid (step (X.out _ _) hb); clear hb)
    go_ret
    exact ⟨bool_of E.out, HB.out⟩
  · have E := Lib.hid (show sameR r q = false by simp [sameR, h1])
    have h2 : (r.1 == q.1) = false := by simpa using h1
    clear h1
    go_enter Try.func18, Try.ntmps18
    go_wp2
    go_ret
    exact ⟨bool_of E.out, X.out _ _⟩

/-- Four cells that stay, and that only new blocks are made. -/
def Four (w : World) (p1 p2 p3 p4 : Addr) (v1 v2 v3 v4 : Value) : Prop :=
  ∀ w', Below w.heap.size w w' → w'.cell? p1 = some v1 ∧ w'.cell? p2 = some v2 ∧ w'.cell? p3 = some v3 ∧ w'.cell? p4 = some v4 ∧ Below w.heap.size w w'
theorem four {w : World} {p1 p2 p3 p4 : Addr} {v1 v2 v3 v4 : Value} (h1 : w.cell? p1 = some v1) (h2 : w.cell? p2 = some v2) (h3 : w.cell? p3 = some v3) (h4 : w.cell? p4 = some v4) : Four w p1 p2 p3 p4 v1 v2 v3 v4 :=
  fun _ hb => ⟨cell_later hb h1, cell_later hb h2, cell_later hb h3, cell_later hb h4, hb⟩

set_option maxHeartbeats 2000000 in
theorem rules_by (R Q : List (Int × List Int)) (a b : Option Addr) (c d : Nat) (w : World) (ha : RulesAt a R w) (hb : RulesAt b Q w) (hl : R.length ≤ 4398046511104) (hm : Q.length ≤ 4398046511104) :
    Calls Try.prog 45 #[.slice a R.length c, .slice b Q.length d, .func (.func 46) #[] #[]] w (Is (.bool (sameRs R Q)) w) := by
  have HA := Lib.hid (fun w1 (k : Below w.heap.size w w1) => ha.below k (Nat.le_refl _))
  have HB := Lib.hid (fun w1 (k : Below w.heap.size w w1) => hb.below k (Nat.le_refl _))
  clear ha hb
  by_cases hlen : R.length = Q.length
  · have HL := Lib.hid hlen
    have hle : Q.length ≤ R.length := by omega
    have hle' : R.length ≤ Q.length := by omega
    have hlb : ((R.length : Int) != (Q.length : Int)) = false := by simp [hlen]
    clear hlen
    go_enter Try.func45, Try.ntmps45
    go_wp2
    go_loopw [16] (fun i wr => ∃ k : Nat, k ≤ R.length ∧ i = .int .i64 k ∧ Alike R Q k ∧ Below w.heap.size w wr) (fun i _ => R.length - (intOf i).toNat)
    case atStart => exact ⟨0, Nat.zero_le _, rfl, alike_zero _ _, .refl _ _⟩
    case round =>
      obtain ⟨k, hk, rfl, hA, hW⟩ := hrel
      have A := Lib.hid hA
      have HW := Lib.hid hW
      clear hA
      by_cases hlt : k < R.length
      · have hlm : k < Q.length := by omega
        obtain ⟨b1, o1, ra, rc, rfl, h1, h2, h3, h4, h5⟩ := HA.out _ hW k hlt
        obtain ⟨b2, o2, rb, rd, rfl, g1, g2, g3, g4, g5⟩ := HB.out _ hW k hlm
        have AE := Lib.hid (fun he => alike_step A.out hlt hlm he)
        have AF := Lib.hid (fun he => show sameRs R Q = false by simpa [sameRs] using alike_fail hlt hlm he)
        generalize R[k] = r at h1 h2 h3 h4 AE AF
        generalize Q[k] = q at g1 g2 g3 g4 AE AF
        have HC := Lib.hid (fun w1 (k : Below wr.heap.size wr w1) => samer_any r q ra rb rc rd w1 (Sep.Reads.below h3 k (Nat.le_refl _)) (Sep.Reads.below g3 k (Nat.le_refl _)) (by omega) (by omega))
        clear h3 g3 h4 g4 h5 g5 hW
        go_wp2
        obtain ⟨wq, hwq⟩ : ∃ wq, wr.alloc (.cells #[.int .i64 r.1, .slice ra r.2.length rc] 30) = wq := ⟨_, rfl⟩
        have HQ := Lib.hid (show Four wq ⟨wr.heap.size, 0, none⟩ ⟨wr.heap.size, 1, none⟩ ⟨b2, o2 + k * 2, none⟩ ⟨b2, o2 + k * 2 + 1, none⟩ (.int .i64 r.1) (.slice ra r.2.length rc) (.int .i64 q.1) (.slice rb q.2.length rd) by
          rw [← hwq]; exact four (cell_new rfl rfl) (cell_new rfl rfl) (cell_old g1) (cell_old g2))
        have QB := Lib.hid (show Below wr.heap.size wr wq by rw [← hwq]; exact boxed _ _)
        rw [hwq]
        have hbd := drawn wq
        clear hwq h1 h2 g1 g2
        go_region_held3 (fun w' => w'.cell? ⟨wr.heap.size, 0, none⟩ = some (.int .i64 r.1) ∧ w'.cell? ⟨wr.heap.size, 1, none⟩ = some (.slice ra r.2.length rc) ∧ w'.cell? ⟨b2, o2 + k * 2, none⟩ = some (.int .i64 q.1) ∧ w'.cell? ⟨b2, o2 + k * 2 + 1, none⟩ = some (.slice rb q.2.length rd) ∧ Below wq.heap.size wq w')
          (exact HQ.out _ (by assumption))
          (first
            | (go_at_call 46; refine (HC.out _ (step QB.out hbd)).mono ?_; rintro e wn ⟨rfl, hb⟩; have kB : Below wq.heap.size wq wn := step hbd hb; clear hb)
            | fail)
        cases hs : sameR r q with
        | true =>
          have A2 := Lib.hid (AE.out (sameR_iff.1 hs))
          clear hs
          go_wp2
          go_roundw
          case rel => exact ⟨k + 1, by omega, by go_num, A2.out, step HW.out (step QB.out kB)⟩
          case measure => simp [intOf]; omega
        | false =>
          have F := Lib.hid (AF.out (sameR_false.1 hs))
          clear hs
          go_wp2
          go_ret
          exact ⟨bool_of F.out, step HW.out (step QB.out kB)⟩
      · have F := Lib.hid (show sameRs R Q = true by simpa [sameRs] using alike_end A.out HL.out hlt)
        clear hW
        go_wp2
        go_ret
        exact ⟨bool_of F.out, HW.out⟩
  · have F := Lib.hid (show sameRs R Q = false by simpa [sameRs] using lists_len hlen)
    have hlb : ((R.length : Int) != (Q.length : Int)) = true := by simpa using fun h => hlen (by omega)
    clear hlen
    go_enter Try.func45, Try.ntmps45
    go_wp2
    go_ret
    exact ⟨bool_of F.out, .refl _ _⟩

/-- What both sides' Same need of two grammars. -/
theorem sameG_parts (G H : Gram) : sameG G H = (G.start == H.start && sameS G.terms H.terms && sameS G.nons H.nons && sameRs G.rules H.rules) := rfl

set_option maxHeartbeats 2000000 in
theorem same_any (h l : Sh) (G H : Gram) (w : World) (k : GAt h G w) (m : GAt l H w) :
    Calls Try.prog 28 #[gv h G, gv l H] w (Is (.bool (sameG G H)) w) := by
  have X := Lib.hid (fun o1 o2 => step (boxed w o1) (boxed (w.alloc o1) o2))
  have B := Lib.hid (show ∀ w', Below w.heap.size w w' → Below w.heap.size w w' from fun _ h => h)
  have k1 := k.t1; have k2 := k.t2; have k3 := k.n1; have k4 := k.n2; have k5 := k.r1; have k6 := k.r2
  have m1 := m.t1; have m2 := m.t2; have m3 := m.n1; have m4 := m.n2; have m5 := m.r1; have m6 := m.r2
  have T := Lib.hid (fun w1 (b : Below w.heap.size w w1) => eqs_any G.terms H.terms h.a1 l.a1 h.c1 l.c1 w1 (k.went b).terms (m.went b).terms (by omega) (by omega))
  have N := Lib.hid (fun w1 (b : Below w.heap.size w w1) => eqs_any G.nons H.nons h.a2 l.a2 h.c2 l.c2 w1 (k.went b).nons (m.went b).nons (by omega) (by omega))
  have R := Lib.hid (fun w1 (b : Below w.heap.size w w1) => rules_by G.rules H.rules h.a3 l.a3 h.c3 l.c3 w1 (k.went b).rules (m.went b).rules (by omega) (by omega))
  clear k m k1 k2 k3 k4 k5 k6 m1 m2 m3 m4 m5 m6
  have E := Lib.hid (sameG_parts G H)
  unfold gv
  generalize sameS G.terms H.terms = b1 at *
  generalize sameS G.nons H.nons = b2 at *
  generalize sameRs G.rules H.rules = b3 at *
  by_cases h0 : G.start = H.start
  · rw [h0] at E ⊢
    rw [beq_self_eq_true, Bool.true_and] at E
    clear h0
    cases b1 with
    | false =>
      go_enter Try.func28, Try.ntmps28
      go_wp2_with (go_at_call 44; refine (T.out _ (X.out _ _)).mono ?_; rintro e w1 ⟨rfl, rfl⟩)
      go_ret
      exact ⟨bool_of (by rw [E.out]; rfl), X.out _ _⟩
    | true =>
      cases b2 with
      | false =>
        go_enter Try.func28, Try.ntmps28
        go_wp2_with (first
          | (go_at_call 44; refine (T.out _ (X.out _ _)).mono ?_; rintro e w1 ⟨rfl, rfl⟩)
          | (go_at_call 44; refine (N.out _ (X.out _ _)).mono ?_; rintro e w1 ⟨rfl, rfl⟩))
        go_ret
        exact ⟨bool_of (by rw [E.out]; rfl), X.out _ _⟩
      | true =>
        go_enter Try.func28, Try.ntmps28
        go_wp2_with (first
          | (go_at_call 44; refine (T.out _ (X.out _ _)).mono ?_; rintro e w1 ⟨rfl, rfl⟩)
          | (go_at_call 44; refine (N.out _ (X.out _ _)).mono ?_; rintro e w1 ⟨rfl, rfl⟩)
          | (go_at_call 45; refine (R.out _ (X.out _ _)).mono ?_; rintro e w1 ⟨rfl, hb⟩; have HB := Lib.hid (step (X.out _ _) hb); clear hb))
        go_ret
        exact ⟨bool_of (by rw [E.out]; rfl), HB.out⟩
  · have h2 : (G.start == H.start) = false := by simpa using h0
    rw [h2, Bool.false_and, Bool.false_and, Bool.false_and] at E
    clear h0
    go_enter Try.func28, Try.ntmps28
    go_wp2
    go_ret
    exact ⟨bool_of E.out, X.out _ _⟩

end Go.Proofs.Ytflljgakdakfdaa.Gr
