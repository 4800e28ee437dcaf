/-
  The plain answers' Same.
-/
import Derived.Test.YtljblpekpmgmaaaGreatDoorGramSame
namespace Go.Proofs.YtljblpekpmgmaaaGreatDoor.Gr
open Go.RowKit Go.Maps
set_option linter.unusedVariables false

/-- Behind the boxes of two grammars, made first. -/
structure B2 (W : World) (h l : Sh) (G H : Gram) (w : World) : Prop where
  below : Below W.heap.size W w
  b1 : Box W.heap.size h G w
  b2 : Box (W.heap.size + 1) l H w
theorem B2.start (h l : Sh) (G H : Gram) (w : World) (T : TypeId) :
    B2 w h l G H ((w.alloc (.cells #[.slice h.a1 G.terms.length h.c1, .slice h.a2 G.nons.length h.c2, .slice h.a3 G.rules.length h.c3, .int .i64 G.start] T)).alloc (.cells #[.slice l.a1 H.terms.length l.c1, .slice l.a2 H.nons.length l.c2, .slice l.a3 H.rules.length l.c3, .int .i64 H.start] T)) :=
  ⟨step (boxed _ _) (boxed _ _), (Box.mk' h G w T).later (boxed _ _), ⟨cell_new (by simp) rfl, cell_new (by simp) rfl, cell_new (by simp) rfl, cell_new (by simp) rfl⟩⟩
theorem B2.went {W : World} {h l : Sh} {G H : Gram} {w w' : World} (k : B2 W h l G H w) (hb : Below w.heap.size w w') : B2 W h l G H w' := ⟨step k.below hb, k.b1.later hb, k.b2.later hb⟩

/-- Six cells that stay, and that only new blocks are made. -/
def Six (w : World) (p1 p2 p3 p4 p5 p6 : Addr) (v1 v2 v3 v4 v5 v6 : Value) : Prop :=
  ∀ w', Below w.heap.size w w' → w'.cell? p1 = some v1 ∧ w'.cell? p2 = some v2 ∧ w'.cell? p3 = some v3 ∧ w'.cell? p4 = some v4 ∧ w'.cell? p5 = some v5 ∧ w'.cell? p6 = some v6 ∧ Below w.heap.size w w'
theorem six {w : World} {p1 p2 p3 p4 p5 p6 : Addr} {v1 v2 v3 v4 v5 v6 : Value} (h1 : w.cell? p1 = some v1) (h2 : w.cell? p2 = some v2) (h3 : w.cell? p3 = some v3) (h4 : w.cell? p4 = some v4) (h5 : w.cell? p5 = some v5) (h6 : w.cell? p6 = some v6) : Six w p1 p2 p3 p4 p5 p6 v1 v2 v3 v4 v5 v6 :=
  fun _ hb => ⟨cell_later hb h1, cell_later hb h2, cell_later hb h3, cell_later hb h4, cell_later hb h5, cell_later hb h6, hb⟩

set_option maxHeartbeats 4000000 in
theorem rsame_any (h l : Sh) (G H : Gram) (w : World) (k : GAt h G w) (m : GAt l H w) :
    Calls Tryz.prog 15 #[gv h G, gv l H] w (Is (.bool (sameG G H)) w) := by
  have X := Lib.hid (B2.start h l G H w 25)
  have k2 := k.t2; have k4 := k.n2; have k5 := k.r1; have k6 := k.r2
  have m2 := m.t2; have m4 := m.n2; have m5 := m.r1; have m6 := m.r2
  have T := Lib.hid (fun w1 (b : Below w.heap.size w w1) => reqs_any G.terms H.terms h.a1 l.a1 h.c1 l.c1 w1 (k.went b).terms (m.went b).terms (by omega) (by omega))
  have N := Lib.hid (fun w1 (b : Below w.heap.size w w1) => reqs_any G.nons H.nons h.a2 l.a2 h.c2 l.c2 w1 (k.went b).nons (m.went b).nons (by omega) (by omega))
  have HA := Lib.hid (fun w1 (b : Below w.heap.size w w1) => (k.went b).rules)
  have HB := Lib.hid (fun w1 (b : Below w.heap.size w w1) => (m.went b).rules)
  have hR : G.rules.length ≤ 4398046511104 := by omega
  have hQ : H.rules.length ≤ 4398046511104 := by omega
  clear k m k2 k4 k5 k6 m2 m4 m5 m6
  have E := Lib.hid (sameG_parts G H)
  unfold gv
  generalize sameS G.terms H.terms = b1 at *
  generalize sameS G.nons H.nons = b2 at *
  cases b1 with
  | false =>
    rw [Bool.and_false, Bool.false_and, Bool.false_and] at E
    go_enter Tryz.func15, Tryz.ntmps15
    go_wp2_with (go_at_call 34; ((with_reducible refine (T.out _ X.out.below).mono ?_)); rintro e w1 ⟨rfl, hb⟩; have X := Lib.hid (X.out.went hb); clear hb)
    go_ret
    exact ⟨bool_of E.out, X.out.below⟩
  | true =>
    cases b2 with
    | false =>
      rw [Bool.and_false, Bool.false_and] at E
      go_enter Tryz.func15, Tryz.ntmps15
      go_wp2_with (first
        | (go_at_call 34; ((with_reducible refine (T.out _ X.out.below).mono ?_)); rintro e w1 ⟨rfl, hb⟩; have X := Lib.hid (X.out.went hb); obtain ⟨x0, x1, x2, x3⟩ := X.out.b1; obtain ⟨y0, y1, y2, y3⟩ := X.out.b2; clear hb)
        | (go_at_call 34; ((with_reducible refine (N.out _ X.out.below).mono ?_)); rintro e w1 ⟨rfl, hb⟩; have X := Lib.hid (X.out.went hb); clear hb))
      go_ret
      exact ⟨bool_of E.out, X.out.below⟩
    | true =>
      rw [Bool.and_true, Bool.and_true] at E
      by_cases h0 : G.start = H.start
      · have h3 : (G.start != H.start) = false := by simpa using h0
        rw [show (G.start == H.start) = true by simpa using h0, Bool.true_and] at E
        clear h0
        by_cases hlen : G.rules.length = H.rules.length
        · have HL := Lib.hid hlen
          have hle : H.rules.length ≤ G.rules.length := by omega
          have hle' : G.rules.length ≤ H.rules.length := by omega
          have hlb : ((G.rules.length : Int) != (H.rules.length : Int)) = false := by simp [hlen]
          clear hlen
          go_enter Tryz.func15, Tryz.ntmps15
          go_wp2_with (first
            | (go_at_call 34; ((with_reducible refine (T.out _ X.out.below).mono ?_)); rintro e w1 ⟨rfl, hb⟩; have X := Lib.hid (X.out.went hb); obtain ⟨x0, x1, x2, x3⟩ := X.out.b1; obtain ⟨y0, y1, y2, y3⟩ := X.out.b2; clear hb)
            | (go_at_call 34; ((with_reducible refine (N.out _ X.out.below).mono ?_)); rintro e w1 ⟨rfl, hb⟩; have X := Lib.hid (X.out.went hb); obtain ⟨x0, x1, x2, x3⟩ := X.out.b1; obtain ⟨y0, y1, y2, y3⟩ := X.out.b2; clear hb))
          obtain ⟨a1, c1, a2, c2, a3, c3⟩ := h
          obtain ⟨e1, d1, e2, d2, e3, d3⟩ := l
          dsimp only at HA HB ⊢
          clear T N x0 x1 x2 x3 y0 y1 y2 y3
          go_loopw [5] (fun i wr => ∃ k : Nat, k ≤ G.rules.length ∧ i = .int .i64 k ∧ Alike G.rules H.rules k ∧ B2 w ⟨a1, c1, a2, c2, a3, c3⟩ ⟨e1, d1, e2, d2, e3, d3⟩ G H wr) (fun i _ => G.rules.length - (intOf i).toNat)
          case atStart => exact ⟨0, Nat.zero_le _, rfl, alike_zero _ _, X.out⟩
          case round =>
            clear X
            obtain ⟨k, hk, rfl, hA, hX⟩ := hrel
            have A := Lib.hid hA
            have X := Lib.hid hX
            clear hA hX
            by_cases hlt : k < G.rules.length
            · have hlm : k < H.rules.length := by omega
              obtain ⟨b1, o1, ra, rc, rfl, h1, h2, h3, h4, h5⟩ := HA.out _ X.out.below k hlt
              obtain ⟨b2, o2, rb, rd, rfl, g1, g2, g3, g4, g5⟩ := HB.out _ X.out.below k hlm
              have AE := Lib.hid (fun he => alike_step A.out hlt hlm he)
              have AF := Lib.hid (fun he => show sameRs G.rules H.rules = false by simpa [sameRs] using alike_fail hlt hlm he)
              generalize G.rules[k] = r at h1 h2 h3 h4 h5 AE AF
              generalize H.rules[k] = q at g1 g2 g3 g4 g5 AE AF
              have HC := Lib.hid (fun w1 (k : Below wr.heap.size wr w1) => rsamer_any r q ra rb rc rd w1 (Sep.Reads.below h3 k (Nat.le_refl _)) (Sep.Reads.below g3 k (Nat.le_refl _)) (by omega) (by omega))
              have x2 := X.out.b1.x2
              have y2 := X.out.b2.x2
              dsimp only at x2 y2
              have HQ := Lib.hid (six x2 y2 h1 h2 g1 g2)
              clear h3 g3 h4 g4 h5 g5 h1 h2 g1 g2
              have hbd := drawn wr
              go_wp2
              clear x2 y2
              go_region_held3 (fun w' => w'.cell? ⟨w.heap.size, 2, none⟩ = some (.slice (some ⟨b1, o1, none⟩) G.rules.length c3) ∧ w'.cell? ⟨w.heap.size + 1, 2, none⟩ = some (.slice (some ⟨b2, o2, none⟩) H.rules.length d3) ∧
                  w'.cell? ⟨b1, o1 + k * 2, none⟩ = some (.int .i64 r.1) ∧ w'.cell? ⟨b1, o1 + k * 2 + 1, none⟩ = some (.slice ra r.2.length rc) ∧ w'.cell? ⟨b2, o2 + k * 2, none⟩ = some (.int .i64 q.1) ∧ w'.cell? ⟨b2, o2 + k * 2 + 1, none⟩ = some (.slice rb q.2.length rd) ∧ Below wr.heap.size wr w')
                (exact HQ.out _ (by assumption))
                (first
                  | (go_at_call 35; refine (HC.out _ hbd).mono ?_; rintro e wn ⟨rfl, hb⟩; have kB : Below wr.heap.size wr wn := step hbd hb; clear hb)
                  | fail)
              cases hs : sameR r q with
              | true =>
                have A2 := Lib.hid (AE.out (sameR_iff.1 hs))
                clear hs
                go_wp2
                go_roundw
                case rel => exact ⟨k + 1, by omega, by go_num, A2.out, X.out.went kB⟩
                case measure => simp [intOf]; omega
              | false =>
                have F := Lib.hid (AF.out (sameR_false.1 hs))
                clear hs
                go_wp2
                go_ret
                exact ⟨bool_of (by rw [E.out]; exact F.out), step X.out.below kB⟩
            · have F := Lib.hid (show sameRs G.rules H.rules = true by simpa [sameRs] using alike_end A.out HL.out hlt)
              obtain ⟨x0, x1, x2, x3⟩ := X.out.b1
              obtain ⟨y0, y1, y2, y3⟩ := X.out.b2
              go_wp2
              go_ret
              exact ⟨bool_of (by rw [E.out]; exact F.out), X.out.below⟩
        · rw [show sameRs G.rules H.rules = false by simpa [sameRs] using lists_len hlen] at E
          have hlb : ((G.rules.length : Int) != (H.rules.length : Int)) = true := by simpa using fun h => hlen (by omega)
          clear hlen
          go_enter Tryz.func15, Tryz.ntmps15
          go_wp2_with (first
            | (go_at_call 34; ((with_reducible refine (T.out _ X.out.below).mono ?_)); rintro e w1 ⟨rfl, hb⟩; have X := Lib.hid (X.out.went hb); obtain ⟨x0, x1, x2, x3⟩ := X.out.b1; obtain ⟨y0, y1, y2, y3⟩ := X.out.b2; clear hb)
            | (go_at_call 34; ((with_reducible refine (N.out _ X.out.below).mono ?_)); rintro e w1 ⟨rfl, hb⟩; have X := Lib.hid (X.out.went hb); obtain ⟨x0, x1, x2, x3⟩ := X.out.b1; obtain ⟨y0, y1, y2, y3⟩ := X.out.b2; clear hb))
          go_ret
          exact ⟨bool_of E.out, X.out.below⟩
      · have h2 : (G.start == H.start) = false := by simpa using h0
        have h3 : (G.start != H.start) = true := by simpa using h0
        rw [h2, Bool.false_and] at E
        clear h0
        go_enter Tryz.func15, Tryz.ntmps15
        go_wp2_with (first
          | (go_at_call 34; ((with_reducible refine (T.out _ X.out.below).mono ?_)); rintro e w1 ⟨rfl, hb⟩; have X := Lib.hid (X.out.went hb); obtain ⟨x0, x1, x2, x3⟩ := X.out.b1; obtain ⟨y0, y1, y2, y3⟩ := X.out.b2; clear hb)
          | (go_at_call 34; ((with_reducible refine (N.out _ X.out.below).mono ?_)); rintro e w1 ⟨rfl, hb⟩; have X := Lib.hid (X.out.went hb); obtain ⟨x0, x1, x2, x3⟩ := X.out.b1; obtain ⟨y0, y1, y2, y3⟩ := X.out.b2; clear hb))
        go_ret
        exact ⟨bool_of E.out, X.out.below⟩

end Go.Proofs.YtljblpekpmgmaaaGreatDoor.Gr
