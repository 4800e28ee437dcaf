/- A part of the proof. -/
import Derived.Deep.RegionWith
import Derived.Test.YtbcgmiocolpjoaaGreatPk08
set_option maxHeartbeats 8000000
set_option linter.unusedVariables false
namespace Go.Proofs.YtbcgmiocolpjoaaGreat
namespace Gr
open Go.RowKit Go.Maps
def symB (G : Gram) (x : Int) : Bool := decide (1 <= x /\ x <= (top G : Int))
def zBI (G : Gram) (r : Int × List Int) : Bool := nonB G r.1 && r.2.all (symB G)
theorem zEn (G : Gram) : zAt G = (nonB G G.start && G.rules.all (zBI G)) := rfl
theorem zE6 {G : Gram} {x : Int} : symB G x = true ↔ 1 <= x /\ x <= (top G : Int) := by
 unfold symB
 rw [decide_eq_true_iff]
theorem zHQ {G : Gram} {x : Int} : symB G x = false ↔ x < 1 \/ (top G : Int) < x := by
 rw [← Bool.not_eq_true, zE6]
 omega
theorem zNv (G : Gram) (x : Int) : symB G x = (zBS G x || nonB G x) := by
 rw [Bool.eq_iff_iff, Bool.or_eq_true, zE6, zAR, zAY]
 unfold top
 omega
theorem zGF {G : Gram} (h : G.nons.length = 0) : zAt G = false := by
 have : nonB G G.start = false := by rw [zLi]; omega
 rw [zEn, this, Bool.false_and]
theorem zAs {L : List Int} {a : Option Addr} {w : World} (h : Sep.Reads a (ivs L) w) {k : Nat} (hk : k < L.length) : ∃ b o, a = some ⟨b, o, none⟩ /\ w.cell? ⟨b, o + k, none⟩ = some (.int .i64 L[k]) :=
 zBH h (by simp [ivs]) hk (by simp [ivs, iv, hk])
theorem zDK (h : Sh) (G : Gram) (w : World) (k : GAt h G w) :
  Calls Tryz.prog 63 #[gv h G] w (Is (.bool (!zAt G)) w) := by
 have hc3 := k.r2
 obtain ⟨a1, c1, a2, c2, a3, c3⟩ := h
 have X := zPB (Bx.start ⟨a1, c1, a2, c2, a3, c3⟩ G w 25)
 have N := zPB (fun s w1 (b : Below w.heap.size w w1) => zGL ⟨a1, c1, a2, c2, a3, c3⟩ G s w1 (k.went b))
 have T := zPB (fun w1 (b : Below w.heap.size w w1) => zBf ⟨a1, c1, a2, c2, a3, c3⟩ G w1 (k.went b))
 have K := zPB (fun w1 (b : Below w.heap.size w w1) => (k.went b).rules)
 clear k
 have E := zPB (zEn G)
 unfold gv
 dsimp only
 cases h0 : nonB G G.start with
 | false =>
  rw [h0, Bool.false_and] at E
  have NS := zPB (show ∀ w1, Below w.heap.size w w1 -> Calls _ _ _ w1 (Is (.bool false) w1) from fun w1 b => by have := N.out G.start w1 b; rw [h0] at this; exact this)
  clear h0
  go_enter Tryz.func63, Tryz.ntmps63
  go_wp2_with (go_at_call 72; refine (NS.out _ X.out.below).mono ?_; rintro e w1 ⟨rfl, hb⟩; have X := zPB (X.out.went hb); clear hb)
  go_ret
  exact ⟨zAA (by rw [E.out]; rfl), X.out.below⟩
 | true =>
  rw [h0, Bool.true_and] at E
  have NS := zPB (show ∀ w1, Below w.heap.size w w1 -> Calls _ _ _ w1 (Is (.bool true) w1) from fun w1 b => by have := N.out G.start w1 b; rw [h0] at this; exact this)
  clear h0
  go_enter Tryz.func63, Tryz.ntmps63
  go_wp2_with (go_at_call 72; refine (NS.out _ X.out.below).mono ?_; rintro e w1 ⟨rfl, hb⟩; have X := zPB (X.out.went hb); obtain ⟨x0, x1, x2, x3⟩ := X.out.box; clear hb)
  clear NS x0 x1 x2 x3
  go_loopw [15] (fun i wr => ∃ j : Nat, j <= G.rules.length /\ i = .int .i64 j /\ zCx (zBI G) G.rules j /\ Bx w ⟨a1, c1, a2, c2, a3, c3⟩ G wr) (fun i _ => G.rules.length - (intOf i).toNat)
  case atStart => exact ⟨0, Nat.zero_le _, rfl, zAo _ _, X.out⟩
  case round =>
   clear X
   obtain ⟨j, hj, rfl, hA, hX⟩ := hrel
   have A := zPB hA
   have X := zPB hX
   obtain ⟨x0, x1, x2, x3⟩ := hX.box
   clear hA hX
   by_cases hlt : j < G.rules.length
   ·obtain ⟨b, o, ra, rc, e, h1, h2, h3, h4, h5⟩ := K.out _ X.out.below j hlt
    try dsimp only at e
    subst e
    have hsz : w.heap.size < wr.heap.size := X.out.size
    have AE := zPB (fun he => zAn A.out hlt he)
    have AF := zPB (fun he => zBO (p := zBI G) hlt he)
    generalize G.rules[j] = r at h1 h2 h3 h4 h5 AE AF
    have NL := zPB (N.out r.1)
    have HR := zPB (show ∀ w1, Below wr.heap.size wr w1 -> Sep.Reads ra (ivs r.2) w1 from fun w1 b => Sep.Reads.below h3 b (Nat.le_refl _))
    have hrl : r.2.length <= 17592186044416 := by omega
    clear h3 h4 h5
    cases hn : nonB G r.1 with
    | false =>
     have F := zPB (AF.out (by simp [zBI, hn]))
     have NL := zPB (show ∀ w1, Below w.heap.size w w1 -> Calls _ _ _ w1 (Is (.bool false) w1) from fun w1 b => by have := NL.out w1 b; rw [hn] at this; exact this)
     clear hn AE AF
     go_wp2_with (go_at_call 72; refine (NL.out _ (X.out.alloc _).below).mono ?_; rintro e w1 ⟨rfl, hb⟩; have X := zPB ((X.out.alloc _).went hb); clear hb)
     go_ret
     exact ⟨zAA (by rw [E.out, F.out]; rfl), X.out.below⟩
    | true =>
     have AE := zPB (fun (hr : r.2.all (symB G) = true) => AE.out (show zBI G r = true by unfold zBI; rw [hn, hr]; rfl))
     have AF := zPB (fun (hr : r.2.all (symB G) = false) => AF.out (show zBI G r = false by unfold zBI; rw [hn, hr]; rfl))
     have NL := zPB (show ∀ w1, Below w.heap.size w w1 -> Calls _ _ _ w1 (Is (.bool true) w1) from fun w1 b => by have := NL.out w1 b; rw [hn] at this; exact this)
     clear hn
     go_wp2_with (go_at_call 72; refine (NL.out _ (X.out.alloc _).below).mono ?_; rintro e w1 ⟨rfl, hb⟩; have X := zPB ((X.out.alloc _).went hb); obtain ⟨x0, x1, x2, x3⟩ := X.out.box; have r1 : w1.cell? ⟨wr.heap.size, 1, none⟩ = some (.slice ra r.2.length rc) := cell_later hb (zAB rfl rfl); have HR := zPB (fun w2 (b : Below w1.heap.size w1 w2) => HR.out w2 (step (boxed _ _) (step hb b))); clear hb)
     clear NL x0 x1 x2 x3 r1
     have X0 := X
     clear X
     go_loopw [27] (fun i wt => ∃ m : Nat, m <= r.2.length /\ i = .int .i64 m /\ zCx (symB G) r.2 m /\ Bx w ⟨a1, c1, a2, c2, some ⟨b, o, none⟩, c3⟩ G wt /\ Below w1.heap.size w1 wt) (fun i _ => r.2.length - (intOf i).toNat)
     case atStart => exact ⟨0, Nat.zero_le _, rfl, zAo _ _, X0.out, .refl _ _⟩
     case round =>
      clear X0
      obtain ⟨m, hm, rfl, hS, hX, hB⟩ := hrel
      have S := zPB hS
      have X := zPB hX
      have B := zPB hB
      obtain ⟨x0, x1, x2, x3⟩ := hX.box
      clear hS hX hB
      by_cases hlm : m < r.2.length
      ·obtain ⟨b2, o2, rfl, hc⟩ := zAs (HR.out _ B.out) hlm
       have SE := zPB (fun he => zAn S.out hlm he)
       have SF := zPB (fun he => zBO (p := symB G) hlm he)
       generalize r.2[m] = x at hc SE SF
       by_cases hx1 : x < 1
       ·have F := zPB (AF.out (SF.out (zHQ.2 (.inl hx1))))
        go_wp2
        go_ret
        exact ⟨zAA (by rw [E.out, F.out]; rfl), X.out.below⟩
       ·by_cases hx2 : (top G : Int) < x
        ·have F := zPB (AF.out (SF.out (zHQ.2 (.inr hx2))))
         go_wp2_with (go_at_call 70; refine (T.out _ X.out.below).mono ?_; rintro e w2 ⟨rfl, hb⟩; have X := zPB (X.out.went hb); clear hb)
         go_ret
         exact ⟨zAA (by rw [E.out, F.out]; rfl), X.out.below⟩
        ·have S2 := zPB (SE.out (zE6.2 ⟨by omega, by omega⟩))
         go_wp2_with (go_at_call 70; refine (T.out _ X.out.below).mono ?_; rintro e w2 ⟨rfl, hb⟩; have X := zPB (X.out.went hb); have B := zPB (step B.out hb); clear hb)
         go_roundw
         case rel => exact ⟨m + 1, by omega, by go_num, S2.out, X.out, B.out⟩
         case measure => simp [intOf]; omega
      ·have A2 := zPB (AE.out (zBh S.out hlm))
       go_wp2
       go_roundw
       case rel => exact ⟨j + 1, by omega, by go_num, A2.out, X.out⟩
       case measure => simp [intOf]; omega
   ·have F := zPB (zBh A.out hlt)
    go_wp2
    go_ret
    exact ⟨zAA (by rw [E.out, F.out]; rfl), X.out.below⟩
def Five (w : World) (p1 p2 p3 p4 p5 : Addr) (v1 v2 v3 v4 v5 : Value) : Prop :=
 ∀ w', Below w.heap.size w w' -> w'.cell? p1 = some v1 /\ w'.cell? p2 = some v2 /\ w'.cell? p3 = some v3 /\ w'.cell? p4 = some v4 /\ w'.cell? p5 = some v5 /\ Below w.heap.size w w'
theorem five {w : World} {p1 p2 p3 p4 p5 : Addr} {v1 v2 v3 v4 v5 : Value} (h1 : w.cell? p1 = some v1) (h2 : w.cell? p2 = some v2) (h3 : w.cell? p3 = some v3) (h4 : w.cell? p4 = some v4) (h5 : w.cell? p5 = some v5) : Five w p1 p2 p3 p4 p5 v1 v2 v3 v4 v5 :=
 fun _ hb => ⟨cell_later hb h1, cell_later hb h2, cell_later hb h3, cell_later hb h4, cell_later hb h5, hb⟩
theorem zII (h : Sh) (G : Gram) (w : World) (k : GAt h G w) :
  Calls Tryz.prog 53 #[gv h G] w (Is (.bool (zAt G)) w) := by
 have hc3 := k.r2
 have hc2 := k.n2
 obtain ⟨a1, c1, a2, c2, a3, c3⟩ := h
 have X := zPB (Bx.start ⟨a1, c1, a2, c2, a3, c3⟩ G w 25)
 have N := zPB (fun s w1 (b : Below w.heap.size w w1) => zL0 ⟨a1, c1, a2, c2, a3, c3⟩ G s w1 (k.went b))
 have T := zPB (fun s w1 (b : Below w.heap.size w w1) => zKL ⟨a1, c1, a2, c2, a3, c3⟩ G s w1 (k.went b))
 have K := zPB (fun w1 (b : Below w.heap.size w w1) => (k.went b).rules)
 clear k
 have E := zPB (zEn G)
 unfold gv
 dsimp only
 by_cases hz : G.nons.length = 0
 ·have F := zPB (zGF hz)
  have hz' : ((G.nons.length : Int) == 0) = true := by simp [hz]
  clear hz
  go_enter Tryz.func53, Tryz.ntmps53
  go_wp2
  go_ret
  exact ⟨zAA F.out, X.out.below⟩
 have hz' : ((G.nons.length : Int) == 0) = false := by simpa using hz
 clear hz
 cases h0 : nonB G G.start with
 | false =>
  rw [h0, Bool.false_and] at E
  have NS := zPB (show ∀ w1, Below w.heap.size w w1 -> Calls _ _ _ w1 (Is (.bool false) w1) from fun w1 b => by have := N.out G.start w1 b; rw [h0] at this; exact this)
  clear h0
  go_enter Tryz.func53, Tryz.ntmps53
  go_wp2_with (go_at_call 81; refine (NS.out _ X.out.below).mono ?_; rintro e w1 ⟨rfl, hb⟩; have X := zPB (X.out.went hb); clear hb)
  go_ret
  exact ⟨zAA E.out, X.out.below⟩
 | true =>
  rw [h0, Bool.true_and] at E
  have NS := zPB (show ∀ w1, Below w.heap.size w w1 -> Calls _ _ _ w1 (Is (.bool true) w1) from fun w1 b => by have := N.out G.start w1 b; rw [h0] at this; exact this)
  clear h0
  go_enter Tryz.func53, Tryz.ntmps53
  go_wp2_with (go_at_call 81; refine (NS.out _ X.out.below).mono ?_; rintro e w1 ⟨rfl, hb⟩; have X := zPB (X.out.went hb); obtain ⟨x0, x1, x2, x3⟩ := X.out.box; clear hb)
  clear NS x0 x1 x2 x3
  go_loopw [3] (fun i wr => ∃ j : Nat, j <= G.rules.length /\ i = .int .i64 j /\ zCx (zBI G) G.rules j /\ Bx w ⟨a1, c1, a2, c2, a3, c3⟩ G wr) (fun i _ => G.rules.length - (intOf i).toNat)
  case atStart => exact ⟨0, Nat.zero_le _, rfl, zAo _ _, X.out⟩
  case round =>
   clear X
   obtain ⟨j, hj, rfl, hA, hX⟩ := hrel
   have A := zPB hA
   have X := zPB hX
   obtain ⟨x0, x1, x2, x3⟩ := hX.box
   clear hA hX
   by_cases hlt : j < G.rules.length
   ·obtain ⟨b, o, ra, rc, e, h1, h2, h3, h4, h5⟩ := K.out _ X.out.below j hlt
    try dsimp only at e
    subst e
    have AE := zPB (fun he => zAn A.out hlt he)
    have AF := zPB (fun he => zBO (p := zBI G) hlt he)
    generalize G.rules[j] = r at h1 h2 h3 h4 h5 AE AF
    have NL := zPB (N.out r.1)
    have HR := zPB (show ∀ w1, Below wr.heap.size wr w1 -> Sep.Reads ra (ivs r.2) w1 from fun w1 b => Sep.Reads.below h3 b (Nat.le_refl _))
    have R2 := zPB (show ∀ w1, Below wr.heap.size wr w1 -> w1.cell? ⟨b, o + j * 2 + 1, none⟩ = some (.slice ra r.2.length rc) from fun w1 b => cell_later b h2)
    have hrl : r.2.length <= 17592186044416 := by omega
    dsimp only at x0 x1 x2 x3
    have HQ := zPB (five x0 x1 x2 x3 h1)
    clear h3 h4 h5 h2
    have hbd := drawn wr
    cases hn : nonB G r.1 with
    | false =>
     have F := zPB (AF.out (by simp [zBI, hn]))
     have NL := zPB (show ∀ w1, Below w.heap.size w w1 -> Calls _ _ _ w1 (Is (.bool false) w1) from fun w1 b => by have := NL.out w1 b; rw [hn] at this; exact this)
     clear hn AE AF
     go_wp2
     clear x0 x1 x2 x3 h1
     go_region_held3 (fun w' => w'.cell? ⟨w.heap.size, 0, none⟩ = some (.slice a1 G.terms.length c1) /\ w'.cell? ⟨w.heap.size, 1, none⟩ = some (.slice a2 G.nons.length c2) /\ w'.cell? ⟨w.heap.size, 2, none⟩ = some (.slice (some ⟨b, o, none⟩) G.rules.length c3) /\ w'.cell? ⟨w.heap.size, 3, none⟩ = some (.int .i64 G.start) /\ w'.cell? ⟨b, o + j * 2, none⟩ = some (.int .i64 r.1) /\ Below wr.heap.size wr w')
      (exact HQ.out _ (by assumption))
      (first
       | (go_at_call 81; refine (NL.out _ (step X.out.below hbd)).mono ?_; rintro e wn ⟨rfl, hb⟩; have kB : Below wr.heap.size wr wn := step hbd hb; clear hb)
       | fail)
     go_wp2
     go_ret
     exact ⟨zAA (by rw [E.out, F.out]), step X.out.below kB⟩
    | true =>
     have AE := zPB (fun (hr : r.2.all (symB G) = true) => AE.out (show zBI G r = true by unfold zBI; rw [hn, hr]; rfl))
     have AF := zPB (fun (hr : r.2.all (symB G) = false) => AF.out (show zBI G r = false by unfold zBI; rw [hn, hr]; rfl))
     have NL := zPB (show ∀ w1, Below w.heap.size w w1 -> Calls _ _ _ w1 (Is (.bool true) w1) from fun w1 b => by have := NL.out w1 b; rw [hn] at this; exact this)
     clear hn
     go_wp2
     clear x0 x1 x2 x3 h1
     go_region_held3 (fun w' => w'.cell? ⟨w.heap.size, 0, none⟩ = some (.slice a1 G.terms.length c1) /\ w'.cell? ⟨w.heap.size, 1, none⟩ = some (.slice a2 G.nons.length c2) /\ w'.cell? ⟨w.heap.size, 2, none⟩ = some (.slice (some ⟨b, o, none⟩) G.rules.length c3) /\ w'.cell? ⟨w.heap.size, 3, none⟩ = some (.int .i64 G.start) /\ w'.cell? ⟨b, o + j * 2, none⟩ = some (.int .i64 r.1) /\ Below wr.heap.size wr w')
      (exact HQ.out _ (by assumption))
      (first
       | (go_at_call 81; refine (NL.out _ (step X.out.below hbd)).mono ?_; rintro e wn ⟨rfl, hb⟩; have kB : Below wr.heap.size wr wn := step hbd hb; clear hb)
       | fail)
     have X0 := zPB (X.out.went kB)
     have HR := zPB (fun w2 (b : Below wn.heap.size wn w2) => HR.out w2 (step kB b))
     have R2 := zPB (fun w2 (b : Below wn.heap.size wn w2) => R2.out w2 (step kB b))
     clear X HQ hbd NL kB
     go_wp2
     go_loopw [4] (fun i wt => ∃ m : Nat, m <= r.2.length /\ i = .int .i64 m /\ zCx (symB G) r.2 m /\ Bx w ⟨a1, c1, a2, c2, some ⟨b, o, none⟩, c3⟩ G wt /\ Below wn.heap.size wn wt) (fun i _ => r.2.length - (intOf i).toNat)
     case atStart => exact ⟨0, Nat.zero_le _, rfl, zAo _ _, X0.out, .refl _ _⟩
     case round =>
      clear X0
      obtain ⟨m, hm, rfl, hS, hX, hB⟩ := hrel
      have S := zPB hS
      have X := zPB hX
      have B := zPB hB
      obtain ⟨x0, x1, x2, x3⟩ := hX.box
      have h2 := R2.out _ hB
      clear hS hX hB
      by_cases hlm : m < r.2.length
      ·obtain ⟨b2, o2, rfl, hc⟩ := zAs (HR.out _ B.out) hlm
       have SE := zPB (fun he => zAn S.out hlm he)
       have SF := zPB (fun he => zBO (p := symB G) hlm he)
       generalize r.2[m] = x at hc SE SF
       dsimp only at x0 x1 x2 x3
       have HQ := zPB (six x0 x1 x2 x3 h2 hc)
       have hbd := drawn wr
       have TX := zPB (T.out x)
       have NX := zPB (N.out x)
       have EX := zPB (zNv G x)
       cases ht : zBS G x with
       | true =>
        have TX := zPB (show ∀ w1, Below w.heap.size w w1 -> Calls _ _ _ w1 (Is (.bool true) w1) from fun w1 b => by have := TX.out w1 b; rw [ht] at this; exact this)
        have S2 := zPB (SE.out (by rw [EX.out, ht]; rfl))
        clear ht NX
        go_wp2
        refine wp_region_held_drew (S := fun w' => w'.cell? ⟨w.heap.size, 0, none⟩ = some (.slice a1 G.terms.length c1) /\ w'.cell? ⟨w.heap.size, 1, none⟩ = some (.slice a2 G.nons.length c2) /\ w'.cell? ⟨w.heap.size, 2, none⟩ = some (.slice (some ⟨b, o, none⟩) G.rules.length c3) /\ w'.cell? ⟨w.heap.size, 3, none⟩ = some (.int .i64 G.start) /\ w'.cell? ⟨b, o + j * 2 + 1, none⟩ = some (.slice (some ⟨b2, o2, none⟩) r.2.length rc) /\ w'.cell? ⟨b2, o2 + m, none⟩ = some (.int .i64 x) /\ Below wr.heap.size wr w') (by kernel_rfl) (HQ.out _ hbd) (fun hHeld => ?_)
        clear x0 x1 x2 x3 h2 hc
        refine wpAnyH_take (i := 0) (oi := _) (v := .agg #[.slice a1 G.terms.length c1, .slice a2 G.nons.length c2, .slice (some ⟨b, o, none⟩) G.rules.length c3, .int .i64 G.start]) rfl (by kernel_rfl) (by kernel_rfl) (by kernel_rfl) (fun _ _ _ h => h) (Or.inl ⟨by rfl, fun w5 hs5 => by obtain ⟨s0, s1, s2, s3, s4, s5, s6⟩ := hs5; go_simp⟩) (by assumption) ?_
        change wpAnyH _ _ _ _ _ _ _ (Act.put _ (some 43) _) _
        simp only [Act.put, List.setIfInBounds_toArray, List.set_cons_zero, List.set_cons_succ]
        refine wpAnyH_take (i := 1) (oi := _) (v := .pointer (some ⟨w.heap.size, 2, none⟩)) rfl (by kernel_rfl) (by kernel_rfl) (by kernel_rfl) (fun _ _ _ h => h) (Or.inl ⟨by rfl, fun w5 hs5 => by obtain ⟨s0, s1, s2, s3, s4, s5, s6⟩ := hs5; go_simp⟩) (by assumption) ?_
        change wpAnyH _ _ _ _ _ _ _ (Act.put _ (some 44) _) _
        simp only [Act.put, List.setIfInBounds_toArray, List.set_cons_zero, List.set_cons_succ]
        refine wpAnyH_take (i := 2) (oi := _) (v := .slice (some ⟨b, o, none⟩) G.rules.length c3) rfl (by kernel_rfl) (by kernel_rfl) (by kernel_rfl) (fun _ _ _ h => h) (Or.inl ⟨by rfl, fun w5 hs5 => by obtain ⟨s0, s1, s2, s3, s4, s5, s6⟩ := hs5; go_simp⟩) (by assumption) ?_
        change wpAnyH _ _ _ _ _ _ _ (Act.put _ (some 45) _) _
        simp only [Act.put, List.setIfInBounds_toArray, List.set_cons_zero, List.set_cons_succ]
        refine wpAnyH_take (i := 3) (oi := _) (v := .int .i64 j) rfl (by kernel_rfl) (by kernel_rfl) (by kernel_rfl) (fun _ _ _ h => h) (Or.inl ⟨by rfl, fun w5 hs5 => by obtain ⟨s0, s1, s2, s3, s4, s5, s6⟩ := hs5; go_simp⟩) (by assumption) ?_
        change wpAnyH _ _ _ _ _ _ _ (Act.put _ (some 46) _) _
        simp only [Act.put, List.setIfInBounds_toArray, List.set_cons_zero, List.set_cons_succ]
        refine wpAnyH_take (i := 4) (oi := _) (v := .pointer (some ⟨b, o + j * 2, none⟩)) rfl (by kernel_rfl) (by kernel_rfl) (by kernel_rfl) (fun _ _ _ h => h) (Or.inl ⟨by rfl, fun w5 hs5 => by obtain ⟨s0, s1, s2, s3, s4, s5, s6⟩ := hs5; go_simp⟩) (by assumption) ?_
        change wpAnyH _ _ _ _ _ _ _ (Act.put _ (some 47) _) _
        simp only [Act.put, List.setIfInBounds_toArray, List.set_cons_zero, List.set_cons_succ]
        refine wpAnyH_take (i := 5) (oi := _) (v := .pointer (some ⟨b, o + j * 2 + 1, none⟩)) rfl (by kernel_rfl) (by kernel_rfl) (by kernel_rfl) (fun _ _ _ h => h) (Or.inl ⟨by rfl, fun w5 hs5 => by obtain ⟨s0, s1, s2, s3, s4, s5, s6⟩ := hs5; go_simp⟩) (by assumption) ?_
        change wpAnyH _ _ _ _ _ _ _ (Act.put _ (some 48) _) _
        simp only [Act.put, List.setIfInBounds_toArray, List.set_cons_zero, List.set_cons_succ]
        refine wpAnyH_take (i := 6) (oi := _) (v := .slice (some ⟨b2, o2, none⟩) r.2.length rc) rfl (by kernel_rfl) (by kernel_rfl) (by kernel_rfl) (fun _ _ _ h => h) (Or.inl ⟨by rfl, fun w5 hs5 => by obtain ⟨s0, s1, s2, s3, s4, s5, s6⟩ := hs5; go_simp⟩) (by assumption) ?_
        change wpAnyH _ _ _ _ _ _ _ (Act.put _ (some 49) _) _
        simp only [Act.put, List.setIfInBounds_toArray, List.set_cons_zero, List.set_cons_succ]
        refine wpAnyH_take (i := 7) (oi := _) (v := .int .i64 m) rfl (by kernel_rfl) (by kernel_rfl) (by kernel_rfl) (fun _ _ _ h => h) (Or.inl ⟨by rfl, fun w5 hs5 => by obtain ⟨s0, s1, s2, s3, s4, s5, s6⟩ := hs5; go_simp⟩) (by assumption) ?_
        change wpAnyH _ _ _ _ _ _ _ (Act.put _ (some 50) _) _
        simp only [Act.put, List.setIfInBounds_toArray, List.set_cons_zero, List.set_cons_succ]
        refine wpAnyH_take (i := 8) (oi := _) (v := .pointer (some ⟨b2, o2 + m, none⟩)) rfl (by kernel_rfl) (by kernel_rfl) (by kernel_rfl) (fun _ _ _ h => h) (Or.inl ⟨by rfl, fun w5 hs5 => by obtain ⟨s0, s1, s2, s3, s4, s5, s6⟩ := hs5; go_simp⟩) (by assumption) ?_
        change wpAnyH _ _ _ _ _ _ _ (Act.put _ (some 51) _) _
        simp only [Act.put, List.setIfInBounds_toArray, List.set_cons_zero, List.set_cons_succ]
        refine wpAnyH_take (i := 9) (oi := _) (v := .int .i64 x) rfl (by kernel_rfl) (by kernel_rfl) (by kernel_rfl) (fun _ _ _ h => h) (Or.inl ⟨by rfl, fun w5 hs5 => by obtain ⟨s0, s1, s2, s3, s4, s5, s6⟩ := hs5; go_simp⟩) (by assumption) ?_
        change wpAnyH _ _ _ _ _ _ _ (Act.put _ (some 52) _) _
        simp only [Act.put, List.setIfInBounds_toArray, List.set_cons_zero, List.set_cons_succ]
        refine wpAnyH_ready (rs := [10]) (by kernel_rfl) (by simp) ?_
        refine AllReadyH.cons (o := _) rfl (fun K' hK' => ?_) AllReadyH.nil
        go_simp
        refine (TX.out _ (step X.out.below hbd)).mono ?_
        rintro e wo ⟨rfl, hb⟩
        have kB : Below wr.heap.size wr wo := step hbd hb
        clear hb hHeld
        refine hK'.out _ _ (HQ.out _ kB) (fun hHeld => ?_)
        clear hK'
        refine wpAnyH_take (i := 11) (oi := _) (v := .bool false) rfl (by kernel_rfl) (by kernel_rfl) (by kernel_rfl) (fun _ _ _ h => h) (Or.inl ⟨by rfl, fun w5 hs5 => by go_simp⟩) (by assumption) ?_
        change wpAnyH _ _ _ _ _ _ _ (Act.put _ (some 54) _) _
        simp only [Act.put, List.setIfInBounds_toArray, List.set_cons_zero, List.set_cons_succ]
        refine wpAnyH_take (i := 12) (oi := _) (v := .bool false) rfl (by kernel_rfl) (by kernel_rfl) (by kernel_rfl) (fun _ _ _ h => h) (Or.inl ⟨by rfl, fun w5 hs5 => by go_simp⟩) (by assumption) ?_
        change wpAnyH _ _ _ _ _ _ _ (Act.put _ (some 55) _) _
        simp only [Act.put, List.setIfInBounds_toArray, List.set_cons_zero, List.set_cons_succ]
        refine wpAnyH_take (i := 13) (oi := _) (v := undef) rfl (by kernel_rfl) (by kernel_rfl) (by kernel_rfl) (fun _ _ _ h => h) (Or.inr ⟨by rfl, rfl⟩) (by assumption) ?_
        change wpAnyH _ _ _ _ _ _ _ (Act.put _ (some 56) _) _
        simp only [Act.put, List.setIfInBounds_toArray, List.set_cons_zero, List.set_cons_succ]
        refine wpAnyH_take (i := 14) (oi := _) (v := undef) rfl (by kernel_rfl) (by kernel_rfl) (by kernel_rfl) (fun _ _ _ h => h) (Or.inr ⟨by rfl, rfl⟩) (by assumption) ?_
        change wpAnyH _ _ _ _ _ _ _ (Act.put _ (some 57) _) _
        simp only [Act.put, List.setIfInBounds_toArray, List.set_cons_zero, List.set_cons_succ]
        refine wpAnyH_take (i := 15) (oi := _) (v := undef) rfl (by kernel_rfl) (by kernel_rfl) (by kernel_rfl) (fun _ _ _ h => h) (Or.inr ⟨by rfl, rfl⟩) (by assumption) ?_
        change wpAnyH _ _ _ _ _ _ _ (Act.put _ (some 58) _) _
        simp only [Act.put, List.setIfInBounds_toArray, List.set_cons_zero, List.set_cons_succ]
        refine wpAnyH_take (i := 16) (oi := _) (v := undef) rfl (by kernel_rfl) (by kernel_rfl) (by kernel_rfl) (fun _ _ _ h => h) (Or.inr ⟨by rfl, rfl⟩) (by assumption) ?_
        change wpAnyH _ _ _ _ _ _ _ (Act.put _ (some 59) _) _
        simp only [Act.put, List.setIfInBounds_toArray, List.set_cons_zero, List.set_cons_succ]
        refine wpAnyH_take (i := 17) (oi := _) (v := undef) rfl (by kernel_rfl) (by kernel_rfl) (by kernel_rfl) (fun _ _ _ h => h) (Or.inr ⟨by rfl, rfl⟩) (by assumption) ?_
        change wpAnyH _ _ _ _ _ _ _ (Act.put _ (some 60) _) _
        simp only [Act.put, List.setIfInBounds_toArray, List.set_cons_zero, List.set_cons_succ]
        refine wpAnyH_take (i := 18) (oi := _) (v := undef) rfl (by kernel_rfl) (by kernel_rfl) (by kernel_rfl) (fun _ _ _ h => h) (Or.inr ⟨by rfl, rfl⟩) (by assumption) ?_
        change wpAnyH _ _ _ _ _ _ _ (Act.put _ (some 61) _) _
        simp only [Act.put, List.setIfInBounds_toArray, List.set_cons_zero, List.set_cons_succ]
        refine wpAnyH_take (i := 19) (oi := _) (v := undef) rfl (by kernel_rfl) (by kernel_rfl) (by kernel_rfl) (fun _ _ _ h => h) (Or.inr ⟨by rfl, rfl⟩) (by assumption) ?_
        change wpAnyH _ _ _ _ _ _ _ (Act.put _ (some 62) _) _
        simp only [Act.put, List.setIfInBounds_toArray, List.set_cons_zero, List.set_cons_succ]
        refine wpAnyH_take (i := 20) (oi := _) (v := undef) rfl (by kernel_rfl) (by kernel_rfl) (by kernel_rfl) (fun _ _ _ h => h) (Or.inr ⟨by rfl, rfl⟩) (by assumption) ?_
        change wpAnyH _ _ _ _ _ _ _ (Act.put _ (some 63) _) _
        simp only [Act.put, List.setIfInBounds_toArray, List.set_cons_zero, List.set_cons_succ]
        refine wpAnyH_take (i := 21) (oi := _) (v := undef) rfl (by kernel_rfl) (by kernel_rfl) (by kernel_rfl) (fun _ _ _ h => h) (Or.inr ⟨by rfl, rfl⟩) (by assumption) ?_
        change wpAnyH _ _ _ _ _ _ _ (Act.put _ (some 64) _) _
        simp only [Act.put, List.setIfInBounds_toArray, List.set_cons_zero, List.set_cons_succ]
        refine wpAnyH_take (i := 22) (oi := _) (v := undef) rfl (by kernel_rfl) (by kernel_rfl) (by kernel_rfl) (fun _ _ _ h => h) (Or.inr ⟨by rfl, rfl⟩) (by assumption) ?_
        change wpAnyH _ _ _ _ _ _ _ (Act.put _ (some 65) _) _
        simp only [Act.put, List.setIfInBounds_toArray, List.set_cons_zero, List.set_cons_succ]
        refine wpAnyH_take (i := 23) (oi := _) (v := undef) rfl (by kernel_rfl) (by kernel_rfl) (by kernel_rfl) (fun _ _ _ h => h) (Or.inr ⟨by rfl, rfl⟩) (by assumption) ?_
        change wpAnyH _ _ _ _ _ _ _ (Act.put _ (some 66) _) _
        simp only [Act.put, List.setIfInBounds_toArray, List.set_cons_zero, List.set_cons_succ]
        refine wpAnyH_take (i := 24) (oi := _) (v := undef) rfl (by kernel_rfl) (by kernel_rfl) (by kernel_rfl) (fun _ _ _ h => h) (Or.inr ⟨by rfl, rfl⟩) (by assumption) ?_
        change wpAnyH _ _ _ _ _ _ _ (Act.put _ (some 67) _) _
        simp only [Act.put, List.setIfInBounds_toArray, List.set_cons_zero, List.set_cons_succ]
        refine wpAnyH_take (i := 25) (oi := _) (v := .bool false) rfl (by kernel_rfl) (by kernel_rfl) (by kernel_rfl) (fun _ _ _ h => h) (Or.inl ⟨by rfl, fun w5 hs5 => by go_simp⟩) (by assumption) ?_
        change wpAnyH _ _ _ _ _ _ _ (Act.put _ (some 68) _) _
        simp only [Act.put, List.setIfInBounds_toArray, List.set_cons_zero, List.set_cons_succ]
        refine wpAnyH_done (by kernel_rfl) ?_ _
        clear hHeld
        go_wp2
        go_roundw
        case rel => exact ⟨m + 1, by omega, by go_num, S2.out, X.out.went kB, step B.out kB⟩
        case measure => simp [intOf]; omega
       | false =>
        have TX := zPB (show ∀ w1, Below w.heap.size w w1 -> Calls _ _ _ w1 (Is (.bool false) w1) from fun w1 b => by have := TX.out w1 b; rw [ht] at this; exact this)
        cases hn : nonB G x with
        | true =>
         have NX := zPB (show ∀ w1, Below w.heap.size w w1 -> Calls _ _ _ w1 (Is (.bool true) w1) from fun w1 b => by have := NX.out w1 b; rw [hn] at this; exact this)
         have S2 := zPB (SE.out (by rw [EX.out, ht, hn]; rfl))
         clear ht hn
         go_wp2
         clear x0 x1 x2 x3 h2 hc
         go_region_held3 (fun w' => w'.cell? ⟨w.heap.size, 0, none⟩ = some (.slice a1 G.terms.length c1) /\ w'.cell? ⟨w.heap.size, 1, none⟩ = some (.slice a2 G.nons.length c2) /\ w'.cell? ⟨w.heap.size, 2, none⟩ = some (.slice (some ⟨b, o, none⟩) G.rules.length c3) /\ w'.cell? ⟨w.heap.size, 3, none⟩ = some (.int .i64 G.start) /\ w'.cell? ⟨b, o + j * 2 + 1, none⟩ = some (.slice (some ⟨b2, o2, none⟩) r.2.length rc) /\ w'.cell? ⟨b2, o2 + m, none⟩ = some (.int .i64 x) /\ Below wr.heap.size wr w')
          (exact HQ.out _ (by assumption))
          (first
           | (go_at_call 82; refine (TX.out _ (step X.out.below hbd)).mono ?_; rintro e wo ⟨rfl, hb⟩; have kB : Below wr.heap.size wr wo := step hbd hb; clear hb)
           | (go_at_call 81; refine (NX.out _ (step X.out.below kB)).mono ?_; rintro e wp ⟨rfl, hb⟩; have kC : Below wr.heap.size wr wp := step kB hb; clear hb)
           | fail)
         go_wp2
         go_roundw
         case rel => exact ⟨m + 1, by omega, by go_num, S2.out, X.out.went kC, step B.out kC⟩
         case measure => simp [intOf]; omega
        | false =>
         have NX := zPB (show ∀ w1, Below w.heap.size w w1 -> Calls _ _ _ w1 (Is (.bool false) w1) from fun w1 b => by have := NX.out w1 b; rw [hn] at this; exact this)
         have F := zPB (AF.out (SF.out (by rw [EX.out, ht, hn]; rfl)))
         clear ht hn
         go_wp2
         clear x0 x1 x2 x3 h2 hc
         go_region_held3 (fun w' => w'.cell? ⟨w.heap.size, 0, none⟩ = some (.slice a1 G.terms.length c1) /\ w'.cell? ⟨w.heap.size, 1, none⟩ = some (.slice a2 G.nons.length c2) /\ w'.cell? ⟨w.heap.size, 2, none⟩ = some (.slice (some ⟨b, o, none⟩) G.rules.length c3) /\ w'.cell? ⟨w.heap.size, 3, none⟩ = some (.int .i64 G.start) /\ w'.cell? ⟨b, o + j * 2 + 1, none⟩ = some (.slice (some ⟨b2, o2, none⟩) r.2.length rc) /\ w'.cell? ⟨b2, o2 + m, none⟩ = some (.int .i64 x) /\ Below wr.heap.size wr w')
          (exact HQ.out _ (by assumption))
          (first
           | (go_at_call 82; refine (TX.out _ (step X.out.below hbd)).mono ?_; rintro e wo ⟨rfl, hb⟩; have kB : Below wr.heap.size wr wo := step hbd hb; clear hb)
           | (go_at_call 81; refine (NX.out _ (step X.out.below kB)).mono ?_; rintro e wp ⟨rfl, hb⟩; have kC : Below wr.heap.size wr wp := step kB hb; clear hb)
           | fail)
         go_wp2
         go_ret
         exact ⟨zAA (by rw [E.out, F.out]), step X.out.below kC⟩
      ·have A2 := zPB (AE.out (zBh S.out hlm))
       go_wp2
       go_roundw
       case rel => exact ⟨j + 1, by omega, by go_num, A2.out, X.out⟩
       case measure => simp [intOf]; omega
   ·have F := zPB (zBh A.out hlt)
    go_wp2
    go_ret
    exact ⟨zAA (by rw [E.out, F.out]), X.out.below⟩
