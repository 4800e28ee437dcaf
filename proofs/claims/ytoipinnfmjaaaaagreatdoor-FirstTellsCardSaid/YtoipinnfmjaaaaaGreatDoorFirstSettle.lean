/-
  Package first: settle: passes over the rules until none adds anything, whatever is added. Condition: the grammar is small; each rule's trial has a contract.
-/
import Derived.Test.YtoipinnfmjaaaaaGreatDoorMFol
import Derived.Test.YtoipinnfmjaaaaaGreatDoorMCheck
import Derived.Deep.LoopGhost
namespace Go.Proofs.YtoipinnfmjaaaaaGreatDoor.Fi
open Go.RowKit Go.Maps
open Go.Proofs.YtoipinnfmjaaaaaGreatDoor.Gr
open Go.Proofs.YtoipinnfmjaaaaaGreatDoor.Rw (Bk)
set_option linter.unusedVariables false

/-- A pass over the rules of a grammar: what holds behind the first rules, a measure that each gain lessens, what holds when none adds anything. -/
structure Pass (G : Gram) (α : Type) where
  Inv : α → Prop
  Tr : α → Nat → α → Bool → Prop
  ms : α → Nat
  Fin : α → Prop
  zero : ∀ T, Inv T → Tr T 0 T false
  inv : ∀ T0 j T b, Tr T0 j T b → Inv T
  yes : ∀ T0 j T, Tr T0 j T true → ms T < ms T0
  fin : ∀ T0 j T, Tr T0 j T false → ¬ j < G.rules.length → Fin T

/-- A rule has been tried. -/
def Trd {G : Gram} {α : Type} (Y : Pass G α) (St : α → World → Prop) (S : Nat → Prop) (T0 : α) (j : Nat) (b0 : Bool) (w : World) (e : Ending) (w' : World) : Prop :=
  ∃ b T, e = .returned (.bool b) ∧ Y.Tr T0 (j + 1) T (b0 || b) ∧ St T w' ∧ Sep.Fr S w w'
/-- All is settled. -/
def Setl {G : Gram} {α : Type} (Y : Pass G α) (St : α → World → Prop) (S : Nat → Prop) (w : World) (e : Ending) (w' : World) : Prop :=
  ∃ v T, e = .returned v ∧ Y.Fin T ∧ St T w' ∧ Sep.Fr S w w'
def SlOut {G : Gram} {α : Type} (Y : Pass G α) (St : α → World → Prop) (S : Nat → Prop) (W : World) (g : Nat) (m : Value) (w : World) : Prop :=
  ∃ (T : α) (b : Bool), m = .bool b ∧ St T w ∧ Y.Inv T ∧ Sep.Fr S W w ∧ (b = true → Y.ms T + 1 ≤ g) ∧ (b = false → Y.Fin T)
def SlIn {G : Gram} {α : Type} (Y : Pass G α) (St : α → World → Prop) (S : Nat → Prop) (W : World) (T0 : α) (m i : Value) (w : World) : Prop :=
  ∃ (j : Nat) (T : α) (b : Bool), j ≤ G.rules.length ∧ i = .int .i64 j ∧ m = .bool b ∧ St T w ∧ Y.Tr T0 j T b ∧ Sep.Fr S W w

set_option maxRecDepth 100000 in
set_option maxHeartbeats 8000000 in
theorem settle_E (p : Nat) (W0 w : World) (h : Sh) (G : Gram) (k : GAt h G W0) {α : Type} (Y : Pass G α) (St : α → World → Prop) (S : Nat → Prop) (T0 : α)
    (hr : G.rules.length ≤ 300) (hb0 : Below W0.heap.size W0 w) (hS : ∀ b, S b → W0.heap.size ≤ b)
    (hSt : ∀ T w1 w2, St T w1 → Below w1.heap.size w1 w2 → St T w2)
    (add : ∀ T0 T j b0 w1 ra rc (hj : j < G.rules.length), St T w1 → Y.Tr T0 j T b0 → Below W0.heap.size W0 w1 → Sep.Reads ra (ivs G.rules[j].2) W0 → G.rules[j].2.length ≤ rc →
      Calls Tryz.prog 21 #[.pointer (some ⟨p, 0, none⟩), .agg #[.int .i64 G.rules[j].1, .slice ra G.rules[j].2.length rc]] w1 (Trd Y St S T0 j b0 w1))
    (h0 : St T0 w) (hI : Y.Inv T0) :
    Calls Tryz.prog 20 #[.slice h.a3 G.rules.length h.c3, .func (.func 21) #[.pointer (some ⟨p, 0, none⟩)] #[]] w (Setl Y St S w) := by
  obtain ⟨a1, c1, a2, c2, a3, c3⟩ := h
  dsimp only
  have KG := Lib.hid k
  have H0 := Lib.hid h0
  have I0 := Lib.hid hI
  have AD := Lib.hid add
  have ST := Lib.hid hSt
  have BB := Lib.hid (show ∀ w', Sep.Fr S w w' → Below W0.heap.size W0 w' from fun w' f => hb0.trans (f.below hS hb0.size))
  clear k hb0 hS hSt add h0 hI
  go_enter Tryz.func20, Tryz.ntmps20
  go_wp2
  go_loopg [4] (Y.ms T0 + 2) (fun g m wr => SlOut Y St S w g m wr)
  case atStart => exact ⟨T0, true, rfl, H0.out, I0.out, .refl _ _, fun _ => by omega, fun h => by cases h⟩
  case round =>
    clear H0 I0
    obtain ⟨T, b, rfl, hs, hi, hf, hg, hn⟩ := hrel
    have S1 := Lib.hid hs
    have I1 := Lib.hid hi
    have F1 := Lib.hid hf
    cases b with
    | false =>
      have N := Lib.hid (hn rfl)
      clear hs hi hf hg hn
      go_wp2
      go_end0
      exact ⟨_, T, rfl, N.out, S1.out, F1.out⟩
    | true =>
      have GG := Lib.hid (hg rfl)
      have Z := Lib.hid (Y.zero T hi)
      clear hs hi hf hg hn
      go_wp2
      go_loopw [4, 10] (fun m i wr => SlIn Y St S w T m i wr) (fun _ i _ => G.rules.length - (intOf i).toNat)
      case atStart => exact ⟨0, T, false, Nat.zero_le _, rfl, rfl, S1.out, Z.out, F1.out⟩
      case round =>
        clear S1 I1 F1 Z
        obtain ⟨j, U, b, hj, rfl, rfl, hs, ht, hf⟩ := hrel
        have S1 := Lib.hid hs
        have R1 := Lib.hid ht
        have F1 := Lib.hid hf
        clear hs ht hf
        by_cases hlt : j < G.rules.length
        · obtain ⟨bb, o, ra, rc, e, h1, h2, h3, h4, h5⟩ := KG.out.rules j hlt
          dsimp only at e
          subst e
          have g1 := (BB.out _ F1.out).cell (p := ⟨bb, o + j * 2, none⟩) (World.block_lt_of_cell? _ _ h1) |>.trans h1
          have g2 := (BB.out _ F1.out).cell (p := ⟨bb, o + j * 2 + 1, none⟩) (World.block_lt_of_cell? _ _ h2) |>.trans h2
          have AC := Lib.hid (fun w1 hs hb => AD.out T U j b w1 ra rc hlt hs R1.out hb h3 h4)
          have hr1 := KG.out.r1
          clear h1 h2 h3 h4 h5
          generalize G.rules[j] = r at *
          obtain ⟨left, R⟩ := r
          dsimp only at g1 g2 AC
          have bx := boxed wr (.cells #[.int .i64 left, .slice ra R.length rc] 40)
          have S2 := Lib.hid (ST.out _ _ _ S1.out bx)
          have F2 := Lib.hid (Rw.fr_then F1.out bx)
          clear bx
          go_wp2_with fail
          refine (AC.out _ S2.out (BB.out _ F2.out)).mono ?_
          rintro e w3 ⟨b1, U2, rfl, ht3, hs3, hf3⟩
          have S3 := Lib.hid hs3
          have R3 := Lib.hid ht3
          have F3 := Lib.hid (F2.out.trans hf3 fun _ h => .inl h)
          clear ht3 hs3 hf3
          cases b1 with
          | false =>
            have R4 := Lib.hid (show Y.Tr T (j + 1) U2 b by have := R3.out; rwa [Bool.or_false] at this)
            clear R3
            go_wp2
            go_roundw
            case rel => exact ⟨j + 1, U2, b, by omega, by go_num, rfl, S3.out, R4.out, F3.out⟩
            case measure => simp [intOf]; omega
          | true =>
            have R4 := Lib.hid (show Y.Tr T (j + 1) U2 true by have := R3.out; rwa [Bool.or_true] at this)
            clear R3
            go_wp2
            go_roundw
            case rel => exact ⟨j + 1, U2, true, by omega, by go_num, rfl, S3.out, R4.out, F3.out⟩
            case measure => simp [intOf]; omega
        · have I2 := Lib.hid (Y.inv _ _ _ _ R1.out)
          have YS := Lib.hid (show b = true → Y.ms U < Y.ms T from fun e => by subst e; exact Y.yes _ _ _ R1.out)
          have NO := Lib.hid (show b = false → Y.Fin U from fun e => by subst e; exact Y.fin _ _ _ R1.out hlt)
          have hgg := GG.out
          go_wp2
          go_roundg (Y.ms T)
          case measure => omega
          case rel => exact ⟨U, b, rfl, S1.out, I2.out, F1.out, fun e => by have := YS.out e; omega, NO.out⟩

set_option maxRecDepth 100000 in
set_option maxHeartbeats 8000000 in
theorem settle_F (p : Nat) (W0 w : World) (h : Sh) (G : Gram) (k : GAt h G W0) {α : Type} (Y : Pass G α) (St : α → World → Prop) (S : Nat → Prop) (T0 : α)
    (hr : G.rules.length ≤ 300) (hb0 : Below W0.heap.size W0 w) (hS : ∀ b, S b → W0.heap.size ≤ b)
    (hSt : ∀ T w1 w2, St T w1 → Below w1.heap.size w1 w2 → St T w2)
    (add : ∀ T0 T j b0 w1 ra rc (hj : j < G.rules.length), St T w1 → Y.Tr T0 j T b0 → Below W0.heap.size W0 w1 → Sep.Reads ra (ivs G.rules[j].2) W0 → G.rules[j].2.length ≤ rc →
      Calls Tryz.prog 22 #[.pointer (some ⟨p, 0, none⟩), .agg #[.int .i64 G.rules[j].1, .slice ra G.rules[j].2.length rc]] w1 (Trd Y St S T0 j b0 w1))
    (h0 : St T0 w) (hI : Y.Inv T0) :
    Calls Tryz.prog 20 #[.slice h.a3 G.rules.length h.c3, .func (.func 22) #[.pointer (some ⟨p, 0, none⟩)] #[]] w (Setl Y St S w) := by
  obtain ⟨a1, c1, a2, c2, a3, c3⟩ := h
  dsimp only
  have KG := Lib.hid k
  have H0 := Lib.hid h0
  have I0 := Lib.hid hI
  have AD := Lib.hid add
  have ST := Lib.hid hSt
  have BB := Lib.hid (show ∀ w', Sep.Fr S w w' → Below W0.heap.size W0 w' from fun w' f => hb0.trans (f.below hS hb0.size))
  clear k hb0 hS hSt add h0 hI
  go_enter Tryz.func20, Tryz.ntmps20
  go_wp2
  go_loopg [4] (Y.ms T0 + 2) (fun g m wr => SlOut Y St S w g m wr)
  case atStart => exact ⟨T0, true, rfl, H0.out, I0.out, .refl _ _, fun _ => by omega, fun h => by cases h⟩
  case round =>
    clear H0 I0
    obtain ⟨T, b, rfl, hs, hi, hf, hg, hn⟩ := hrel
    have S1 := Lib.hid hs
    have I1 := Lib.hid hi
    have F1 := Lib.hid hf
    cases b with
    | false =>
      have N := Lib.hid (hn rfl)
      clear hs hi hf hg hn
      go_wp2
      go_end0
      exact ⟨_, T, rfl, N.out, S1.out, F1.out⟩
    | true =>
      have GG := Lib.hid (hg rfl)
      have Z := Lib.hid (Y.zero T hi)
      clear hs hi hf hg hn
      go_wp2
      go_loopw [4, 10] (fun m i wr => SlIn Y St S w T m i wr) (fun _ i _ => G.rules.length - (intOf i).toNat)
      case atStart => exact ⟨0, T, false, Nat.zero_le _, rfl, rfl, S1.out, Z.out, F1.out⟩
      case round =>
        clear S1 I1 F1 Z
        obtain ⟨j, U, b, hj, rfl, rfl, hs, ht, hf⟩ := hrel
        have S1 := Lib.hid hs
        have R1 := Lib.hid ht
        have F1 := Lib.hid hf
        clear hs ht hf
        by_cases hlt : j < G.rules.length
        · obtain ⟨bb, o, ra, rc, e, h1, h2, h3, h4, h5⟩ := KG.out.rules j hlt
          dsimp only at e
          subst e
          have g1 := (BB.out _ F1.out).cell (p := ⟨bb, o + j * 2, none⟩) (World.block_lt_of_cell? _ _ h1) |>.trans h1
          have g2 := (BB.out _ F1.out).cell (p := ⟨bb, o + j * 2 + 1, none⟩) (World.block_lt_of_cell? _ _ h2) |>.trans h2
          have AC := Lib.hid (fun w1 hs hb => AD.out T U j b w1 ra rc hlt hs R1.out hb h3 h4)
          have hr1 := KG.out.r1
          clear h1 h2 h3 h4 h5
          generalize G.rules[j] = r at *
          obtain ⟨left, R⟩ := r
          dsimp only at g1 g2 AC
          have bx := boxed wr (.cells #[.int .i64 left, .slice ra R.length rc] 40)
          have S2 := Lib.hid (ST.out _ _ _ S1.out bx)
          have F2 := Lib.hid (Rw.fr_then F1.out bx)
          clear bx
          go_wp2_with fail
          refine (AC.out _ S2.out (BB.out _ F2.out)).mono ?_
          rintro e w3 ⟨b1, U2, rfl, ht3, hs3, hf3⟩
          have S3 := Lib.hid hs3
          have R3 := Lib.hid ht3
          have F3 := Lib.hid (F2.out.trans hf3 fun _ h => .inl h)
          clear ht3 hs3 hf3
          cases b1 with
          | false =>
            have R4 := Lib.hid (show Y.Tr T (j + 1) U2 b by have := R3.out; rwa [Bool.or_false] at this)
            clear R3
            go_wp2
            go_roundw
            case rel => exact ⟨j + 1, U2, b, by omega, by go_num, rfl, S3.out, R4.out, F3.out⟩
            case measure => simp [intOf]; omega
          | true =>
            have R4 := Lib.hid (show Y.Tr T (j + 1) U2 true by have := R3.out; rwa [Bool.or_true] at this)
            clear R3
            go_wp2
            go_roundw
            case rel => exact ⟨j + 1, U2, true, by omega, by go_num, rfl, S3.out, R4.out, F3.out⟩
            case measure => simp [intOf]; omega
        · have I2 := Lib.hid (Y.inv _ _ _ _ R1.out)
          have YS := Lib.hid (show b = true → Y.ms U < Y.ms T from fun e => by subst e; exact Y.yes _ _ _ R1.out)
          have NO := Lib.hid (show b = false → Y.Fin U from fun e => by subst e; exact Y.fin _ _ _ R1.out hlt)
          have hgg := GG.out
          go_wp2
          go_roundg (Y.ms T)
          case measure => omega
          case rel => exact ⟨U, b, rfl, S1.out, I2.out, F1.out, fun e => by have := YS.out e; omega, NO.out⟩

set_option maxRecDepth 100000 in
set_option maxHeartbeats 8000000 in
theorem settle_B (p : Nat) (W0 w : World) (h : Sh) (G : Gram) (k : GAt h G W0) {α : Type} (Y : Pass G α) (St : α → World → Prop) (S : Nat → Prop) (T0 : α)
    (hr : G.rules.length ≤ 300) (hb0 : Below W0.heap.size W0 w) (hS : ∀ b, S b → W0.heap.size ≤ b)
    (hSt : ∀ T w1 w2, St T w1 → Below w1.heap.size w1 w2 → St T w2)
    (add : ∀ T0 T j b0 w1 ra rc (hj : j < G.rules.length), St T w1 → Y.Tr T0 j T b0 → Below W0.heap.size W0 w1 → Sep.Reads ra (ivs G.rules[j].2) W0 → G.rules[j].2.length ≤ rc →
      Calls Tryz.prog 23 #[.pointer (some ⟨p, 0, none⟩), .agg #[.int .i64 G.rules[j].1, .slice ra G.rules[j].2.length rc]] w1 (Trd Y St S T0 j b0 w1))
    (h0 : St T0 w) (hI : Y.Inv T0) :
    Calls Tryz.prog 20 #[.slice h.a3 G.rules.length h.c3, .func (.func 23) #[.pointer (some ⟨p, 0, none⟩)] #[]] w (Setl Y St S w) := by
  obtain ⟨a1, c1, a2, c2, a3, c3⟩ := h
  dsimp only
  have KG := Lib.hid k
  have H0 := Lib.hid h0
  have I0 := Lib.hid hI
  have AD := Lib.hid add
  have ST := Lib.hid hSt
  have BB := Lib.hid (show ∀ w', Sep.Fr S w w' → Below W0.heap.size W0 w' from fun w' f => hb0.trans (f.below hS hb0.size))
  clear k hb0 hS hSt add h0 hI
  go_enter Tryz.func20, Tryz.ntmps20
  go_wp2
  go_loopg [4] (Y.ms T0 + 2) (fun g m wr => SlOut Y St S w g m wr)
  case atStart => exact ⟨T0, true, rfl, H0.out, I0.out, .refl _ _, fun _ => by omega, fun h => by cases h⟩
  case round =>
    clear H0 I0
    obtain ⟨T, b, rfl, hs, hi, hf, hg, hn⟩ := hrel
    have S1 := Lib.hid hs
    have I1 := Lib.hid hi
    have F1 := Lib.hid hf
    cases b with
    | false =>
      have N := Lib.hid (hn rfl)
      clear hs hi hf hg hn
      go_wp2
      go_end0
      exact ⟨_, T, rfl, N.out, S1.out, F1.out⟩
    | true =>
      have GG := Lib.hid (hg rfl)
      have Z := Lib.hid (Y.zero T hi)
      clear hs hi hf hg hn
      go_wp2
      go_loopw [4, 10] (fun m i wr => SlIn Y St S w T m i wr) (fun _ i _ => G.rules.length - (intOf i).toNat)
      case atStart => exact ⟨0, T, false, Nat.zero_le _, rfl, rfl, S1.out, Z.out, F1.out⟩
      case round =>
        clear S1 I1 F1 Z
        obtain ⟨j, U, b, hj, rfl, rfl, hs, ht, hf⟩ := hrel
        have S1 := Lib.hid hs
        have R1 := Lib.hid ht
        have F1 := Lib.hid hf
        clear hs ht hf
        by_cases hlt : j < G.rules.length
        · obtain ⟨bb, o, ra, rc, e, h1, h2, h3, h4, h5⟩ := KG.out.rules j hlt
          dsimp only at e
          subst e
          have g1 := (BB.out _ F1.out).cell (p := ⟨bb, o + j * 2, none⟩) (World.block_lt_of_cell? _ _ h1) |>.trans h1
          have g2 := (BB.out _ F1.out).cell (p := ⟨bb, o + j * 2 + 1, none⟩) (World.block_lt_of_cell? _ _ h2) |>.trans h2
          have AC := Lib.hid (fun w1 hs hb => AD.out T U j b w1 ra rc hlt hs R1.out hb h3 h4)
          have hr1 := KG.out.r1
          clear h1 h2 h3 h4 h5
          generalize G.rules[j] = r at *
          obtain ⟨left, R⟩ := r
          dsimp only at g1 g2 AC
          have bx := boxed wr (.cells #[.int .i64 left, .slice ra R.length rc] 40)
          have S2 := Lib.hid (ST.out _ _ _ S1.out bx)
          have F2 := Lib.hid (Rw.fr_then F1.out bx)
          clear bx
          go_wp2_with fail
          refine (AC.out _ S2.out (BB.out _ F2.out)).mono ?_
          rintro e w3 ⟨b1, U2, rfl, ht3, hs3, hf3⟩
          have S3 := Lib.hid hs3
          have R3 := Lib.hid ht3
          have F3 := Lib.hid (F2.out.trans hf3 fun _ h => .inl h)
          clear ht3 hs3 hf3
          cases b1 with
          | false =>
            have R4 := Lib.hid (show Y.Tr T (j + 1) U2 b by have := R3.out; rwa [Bool.or_false] at this)
            clear R3
            go_wp2
            go_roundw
            case rel => exact ⟨j + 1, U2, b, by omega, by go_num, rfl, S3.out, R4.out, F3.out⟩
            case measure => simp [intOf]; omega
          | true =>
            have R4 := Lib.hid (show Y.Tr T (j + 1) U2 true by have := R3.out; rwa [Bool.or_true] at this)
            clear R3
            go_wp2
            go_roundw
            case rel => exact ⟨j + 1, U2, true, by omega, by go_num, rfl, S3.out, R4.out, F3.out⟩
            case measure => simp [intOf]; omega
        · have I2 := Lib.hid (Y.inv _ _ _ _ R1.out)
          have YS := Lib.hid (show b = true → Y.ms U < Y.ms T from fun e => by subst e; exact Y.yes _ _ _ R1.out)
          have NO := Lib.hid (show b = false → Y.Fin U from fun e => by subst e; exact Y.fin _ _ _ R1.out hlt)
          have hgg := GG.out
          go_wp2
          go_roundg (Y.ms T)
          case measure => omega
          case rel => exact ⟨U, b, rfl, S1.out, I2.out, F1.out, fun e => by have := YS.out e; omega, NO.out⟩

end Go.Proofs.YtoipinnfmjaaaaaGreatDoor.Fi
