/- A part of the proof. -/
import Derived.Test.YtbcgmiocolpjoaaGreatPk26
import Derived.Deep.LoopGhost
import Derived.Laws.EntriesVeiled
set_option maxHeartbeats 16000000
set_option maxRecDepth 100000
set_option linter.unusedVariables false
namespace Go.Proofs.YtbcgmiocolpjoaaGreat
open Go.RowKit Go.Maps
namespace Le
open Gr
open Rw (Bk)
structure PSt (W0 W : World) (p q n : Nat) (T : Int -> Ans) (w : World) : Prop where
 f : Bk W.heap.size #[.pointer (some ⟨p, 0, none⟩), lexV] 93 w
 t : TAt p q n T w
 fr : Sep.Fr (fun k => k = q) W w
 b0 : Below W0.heap.size W0 w
 lq : q < W.heap.size
 hq : W0.heap.size <= q
theorem PSt.went {W0 W : World} {p q n : Nat} {T : Int -> Ans} {w w' : World} (k : PSt W0 W p q n T w) (hb : Below w.heap.size w w') : PSt W0 W p q n T w' :=
 ⟨k.f.went hb, k.t.went hb, Rw.zI5 k.fr hb, Gr.step k.b0 hb, k.lq, k.hq⟩
theorem PSt.put {W0 W : World} {p q n : Nat} {T : Int -> Ans} {w : World} (k : PSt W0 W p q n T w) {s : Nat} (hs : s < n) {a : Ans} {v : Value} (hv : WAt q (zAC a) v w) (ha : Bd a) :
  PSt W0 W p q n (setA T (s : Int) a) ((w.setCell ⟨q, s * 2, none⟩ (.int .i64 (lenA a : Int))).setCell ⟨q, s * 2 + 1, none⟩ v) := by
 have hF : Sep.Fr (fun i => i = q) w ((w.setCell ⟨q, s * 2, none⟩ (.int .i64 (lenA a : Int))).setCell ⟨q, s * 2 + 1, none⟩ v) :=
  ((Sep.Fr.refl (fun i => i = q) w).setCell ⟨q, s * 2, none⟩ rfl _).setCell ⟨q, s * 2 + 1, none⟩ rfl _
 have := k.lq
 have hq := k.hq
 exact ⟨k.f.fr hF (by omega), k.t.set hs hv ha, k.fr.trans hF fun _ h => .inl h, k.b0.trans (hF.below (fun i hi => by omega) k.b0.size), k.lq, k.hq⟩
def zMh (G : Gram) (p q n : Nat) (T0 : Int -> Ans) (w : World) (e : Ending) (w' : World) : Prop :=
 ∃ T b, e = .returned (.bool b) /\ TAt p q n T w' /\ Passed G n T0 T b /\ Sep.Fr (fun k => k = q) w w'
def PRel (W0 W : World) (G : Gram) (p q n : Nat) (T0 : Int -> Ans) (m i : Value) (w : World) : Prop :=
 ∃ (j : Nat) (b : Bool) (T : Int -> Ans), j <= G.rules.length /\ i = .int .i64 j /\ m = .bool b /\ PSt W0 W p q n T w /\ Tried G n T0 j T b
structure PCells (W : World) (p q n s : Nat) (u0 u1 : Value) (rb wb : Nat) (x0 x1 : Value) (w : World) : Prop where
 f0 : w.cell? ⟨W.heap.size, 0, none⟩ = some (.pointer (some ⟨p, 0, none⟩))
 f1 : w.cell? ⟨W.heap.size, 1, none⟩ = some lexV
 pp : w.cell? ⟨p, 0, none⟩ = some (.slice (some ⟨q, 0, none⟩) n n)
 rr : w.cell? ⟨rb, 0, none⟩ = some (.int .i64 (s : Int))
 w0 : w.cell? ⟨wb, 0, none⟩ = some x0
 w1 : w.cell? ⟨wb, 1, none⟩ = some x1
 l0 : w.cell? ⟨q, s * 2, none⟩ = some u0
 l1 : w.cell? ⟨q, s * 2 + 1, none⟩ = some u1
theorem PCells.later {W : World} {p q n s : Nat} {u0 u1 : Value} {rb wb : Nat} {x0 x1 : Value} {w w' : World} (k : PCells W p q n s u0 u1 rb wb x0 x1 w) (hb : Below w.heap.size w w') :
  w'.cell? ⟨W.heap.size, 0, none⟩ = some (.pointer (some ⟨p, 0, none⟩)) /\ w'.cell? ⟨W.heap.size, 1, none⟩ = some lexV /\ w'.cell? ⟨p, 0, none⟩ = some (.slice (some ⟨q, 0, none⟩) n n) /\ w'.cell? ⟨rb, 0, none⟩ = some (.int .i64 (s : Int)) /\
   w'.cell? ⟨wb, 0, none⟩ = some x0 /\ w'.cell? ⟨wb, 1, none⟩ = some x1 /\ w'.cell? ⟨q, s * 2, none⟩ = some u0 /\ w'.cell? ⟨q, s * 2 + 1, none⟩ = some u1 /\ Below w.heap.size w w' :=
 ⟨cell_later hb k.f0, cell_later hb k.f1, cell_later hb k.pp, cell_later hb k.rr, cell_later hb k.w0, cell_later hb k.w1, cell_later hb k.l0, cell_later hb k.l1, hb⟩
theorem zLq (W0 : World) (h : Sh) (G : Gram) (p q n : Nat) (T : Int -> Ans) (w : World) (k : GAt h G W0) (hs : Sml G) (hn : n = top G + 1) (hb : Below W0.heap.size W0 w) (hq : W0.heap.size <= q) (ht : TAt p q n T w) (hv : Inv G T) :
  Calls Tryz.prog 44 #[.agg #[.pointer (some ⟨p, 0, none⟩), lexV], .slice h.a3 G.rules.length h.c3] w (zMh G p q n T w) := by
 obtain ⟨a1, c1, a2, c2, a3, c3⟩ := h
 have P0 := zPB (show PSt W0 w p q n T (w.alloc (.cells #[.pointer (some ⟨p, 0, none⟩), lexV] 93)) from
  ⟨Bk.new w _ _ _ rfl, ht.went (boxed _ _), Sep.Fr.of_below (boxed _ _), Gr.step hb (boxed _ _), ht.list.lt, hq⟩)
 have V0 := zPB (zES (n := n) hv)
 have RU := zPB k.rules
 have hrl := hs.r
 have KN := zPB (fun j (hj : j < G.rules.length) => show nonB G G.rules[j].1 = true by have := zCL hs.known hj; rwa [zBT hj] at this)
 have HW := zPB hs.w
 have HN := zPB hn
 have HT := zPB (show top G = G.terms.length + G.nons.length from rfl)
 clear k hs hb hq ht hv hn
 dsimp only
 go_enter Tryz.func44, Tryz.ntmps44
 go_wp2
 go_loopw [5, 11] (fun m i wr => PRel W0 w G p q n T m i wr) (fun _ i _ => G.rules.length - (intOf i).toNat)
 case atStart => exact ⟨0, false, T, Nat.zero_le _, rfl, rfl, P0.out, V0.out⟩
 case round =>
  clear P0 V0
  obtain ⟨j, b, U, hj, rfl, rfl, hP, hV⟩ := hrel
  have P := zPB hP
  have V := zPB hV
  clear hP hV
  by_cases hlt : j < G.rules.length
  ·obtain ⟨bb, o, ra, rc, e, h1, h2, h3, h4, h5⟩ := RU.out j hlt
   try dsimp only at e
   subst e
   replace h1 := cell_later P.out.b0 h1
   replace h2 := cell_later P.out.b0 h2
   replace h3 := Sep.Reads.below h3 P.out.b0 (Nat.le_refl _)
   have hnn := KN.out j hlt
   have SK := zPB (V.out.skip hlt)
   have PU := zPB (fun a b => V.out.put hlt hnn a b)
   have hr8 := HW.out _ (List.getElem_mem hlt)
   generalize G.rules[j] = r at h1 h2 h3 h4 h5 hnn SK PU hr8
   obtain ⟨left, R⟩ := r
   dsimp only at h1 h2 h3 h4 h5 hnn SK PU hr8
   rw [zAY] at hnn
   obtain ⟨s, rfl⟩ : ∃ s : Nat, left = (s : Int) := ⟨left.toNat, by omega⟩
   have hsn : s < n := by have := HN.out; have := HT.out; omega
   have PU := zPB (PU.out (by omega) (by omega))
   have bx1 := boxed wr (.cells #[.int .i64 (s : Int), .slice ra R.length rc] 59)
   have P1 := zPB (P.out.went bx1)
   have R1 := zPB (Bk.new wr #[.int .i64 (s : Int), .slice ra R.length rc] 59 _ rfl)
   have JC := zPB (zGs false (.pointer (some ⟨p, 0, none⟩)) U R ra rc _ (.inr ⟨rfl, p, q, n, rfl, P1.out.t⟩) (Sep.Reads.below h3 bx1 (Nat.le_refl _)) (by omega))
   obtain ⟨f0, f1, ff⟩ := P.out.f.two
   have hwl : w.heap.size < wr.heap.size := P.out.f.lt
   clear h3 hnn bx1
   go_wp2_with (go_at_call 47; refine JC.out.mono ?_; rintro e w3 ⟨ad, ac, rfl, hR, hN, hb⟩)
   have bx3 := boxed w3 (.cells #[.int .i64 (lenA (J U R) : Int), .slice ad (zAC (J U R)).length ac] 101)
   have P4 := zPB ((P1.out.went hb).went bx3)
   have R4 := zPB ((R1.out.went hb).went bx3)
   have Q4 := zPB (Bk.new w3 #[.int .i64 (lenA (J U R) : Int), .slice ad (zAC (J U R)).length ac] 101 _ rfl)
   have RD := zPB (Sep.Reads.below hR bx3 (Nat.le_refl _))
   have hrb : q < wr.heap.size := P.out.t.list.lt
   have hwb : q < w3.heap.size := (P1.out.went hb).t.list.lt
   have hqw : q < (wr.alloc (.cells #[.int .i64 (s : Int), .slice ra R.length rc] 59)).heap.size := P1.out.t.list.lt
   have WN := zPB (fun w1 hR => zN3 (q := q) (x := zAC (J U R)) (w := w1) (c := ac) hR hN hqw rfl)
   clear hR hN hb bx3 h1 h2 f0 f1 ff hwl P1 R1 P JC hqw
   generalize w3.alloc (.cells #[.int .i64 (lenA (J U R) : Int), .slice ad (zAC (J U R)).length ac] 101) = W4 at *
   generalize w3.heap.size = wb at *
   generalize wr.heap.size = rb at *
   obtain ⟨uv, l1, ua, uc, rfl, hRu, _⟩ := P4.out.t.list.word s hsn
   have bdU := P4.out.t.ok.bnd (s : Int)
   have PC := zPB (PCells.mk (P4.out.f.two.1) (P4.out.f.two.2.1) P4.out.t.ptr (R4.out.two.1) (Q4.out.two.1) (Q4.out.two.2.1) (P4.out.t.list.len s hsn) l1)
   have SM := zPB (fun w1 (b : Below W4.heap.size W4 w1) => zGX (some ⟨p, 0, none⟩) (J U R) (U (s : Int)) ad ua ac uc w1 (RD.out.below b (Nat.le_refl _)) (Sep.Reads.below hRu b (Nat.le_refl _)) (zA1 _ _) bdU)
   have HQ := zPB (fun w' => PC.out.later (w' := w'))
   have hbd := drawn W4
   have hwn := P4.out.t.small
   clear l1 hRu bdU
   cases hbt : zAQ (J U R) (U (s : Int)) with
   | false =>
    have V1 := zPB (SK.out hbt)
    rw [hbt] at SM
    clear hbt SK PU WN
    go_region_held3 (fun w' => w'.cell? ⟨w.heap.size, 0, none⟩ = some (.pointer (some ⟨p, 0, none⟩)) /\ w'.cell? ⟨w.heap.size, 1, none⟩ = some lexV /\ w'.cell? ⟨p, 0, none⟩ = some (.slice (some ⟨q, 0, none⟩) n n) /\ w'.cell? ⟨rb, 0, none⟩ = some (.int .i64 (s : Int)) /\
      w'.cell? ⟨wb, 0, none⟩ = some (.int .i64 (lenA (J U R) : Int)) /\ w'.cell? ⟨wb, 1, none⟩ = some (.slice ad (zAC (J U R)).length ac) /\ w'.cell? ⟨q, s * 2, none⟩ = some (.int .i64 (lenA (U (s : Int)) : Int)) /\ w'.cell? ⟨q, s * 2 + 1, none⟩ = some (.slice ua (zAC (U (s : Int))).length uc) /\ Below W4.heap.size W4 w')
     (exact HQ.out _ (by assumption))
     (first
      | (go_at_call 74; refine (SM.out _ hbd).mono ?_; rintro e w5 ⟨rfl, hb⟩; have kB : Below W4.heap.size W4 w5 := Gr.step hbd hb; clear hb)
      | fail)
    go_wp2
    go_roundw
    case rel => exact ⟨j + 1, b, U, by omega, by go_num, rfl, P4.out.went kB, V1.out⟩
    case measure => simp [intOf]; omega
   | true =>
    have V1 := zPB (PU.out hbt)
    rw [hbt] at SM
    clear hbt SK PU
    go_region_held3 (fun w' => w'.cell? ⟨w.heap.size, 0, none⟩ = some (.pointer (some ⟨p, 0, none⟩)) /\ w'.cell? ⟨w.heap.size, 1, none⟩ = some lexV /\ w'.cell? ⟨p, 0, none⟩ = some (.slice (some ⟨q, 0, none⟩) n n) /\ w'.cell? ⟨rb, 0, none⟩ = some (.int .i64 (s : Int)) /\
      w'.cell? ⟨wb, 0, none⟩ = some (.int .i64 (lenA (J U R) : Int)) /\ w'.cell? ⟨wb, 1, none⟩ = some (.slice ad (zAC (J U R)).length ac) /\ w'.cell? ⟨q, s * 2, none⟩ = some (.int .i64 (lenA (U (s : Int)) : Int)) /\ w'.cell? ⟨q, s * 2 + 1, none⟩ = some (.slice ua (zAC (U (s : Int))).length uc) /\ Below W4.heap.size W4 w')
     (exact HQ.out _ (by assumption))
     (first
      | (go_at_call 74; refine (SM.out _ hbd).mono ?_; rintro e w5 ⟨rfl, hb⟩; have kB : Below W4.heap.size W4 w5 := Gr.step hbd hb; clear hb)
      | fail)
    have P5 := zPB (P4.out.went kB)
    have L6 := zPB ((P5.out.put hsn (WN.out _ (RD.out.below kB (Nat.le_refl _))) (zA1 U R)).went (drawn _))
    have hlq := P4.out.lq
    have hne := P4.out.t.ne
    have HQ5 := zPB (show ∀ w', Below w5.heap.size w5 w' -> w'.cell? ⟨w.heap.size, 0, none⟩ = some (.pointer (some ⟨p, 0, none⟩)) /\ w'.cell? ⟨w.heap.size, 1, none⟩ = some lexV /\ w'.cell? ⟨p, 0, none⟩ = some (.slice (some ⟨q, 0, none⟩) n n) /\ w'.cell? ⟨rb, 0, none⟩ = some (.int .i64 (s : Int)) /\ w'.cell? ⟨wb, 0, none⟩ = some (.int .i64 (lenA (J U R) : Int)) /\ w'.cell? ⟨wb, 1, none⟩ = some (.slice ad (zAC (J U R)).length ac) from fun w' b => by
     obtain ⟨y0, y1, y2, y3, y4, y5, _⟩ := HQ.out w' (Gr.step kB b)
     exact ⟨y0, y1, y2, y3, y4, y5⟩)
    have HT5 := zPB (show ∀ w'' x y, Below w5.heap.size w5 w'' -> (fun w' => w'.cell? ⟨w.heap.size, 0, none⟩ = some (.pointer (some ⟨p, 0, none⟩)) /\ w'.cell? ⟨w.heap.size, 1, none⟩ = some lexV /\ w'.cell? ⟨p, 0, none⟩ = some (.slice (some ⟨q, 0, none⟩) n n) /\ w'.cell? ⟨rb, 0, none⟩ = some (.int .i64 (s : Int)) /\ w'.cell? ⟨wb, 0, none⟩ = some (.int .i64 (lenA (J U R) : Int)) /\ w'.cell? ⟨wb, 1, none⟩ = some (.slice ad (zAC (J U R)).length ac)) ((w''.setCell ⟨q, s * 2, none⟩ x).setCell ⟨q, s * 2 + 1, none⟩ y) from fun w' x y b => by
     have hF : Sep.Fr (fun i => i = q) w' ((w'.setCell ⟨q, s * 2, none⟩ x).setCell ⟨q, s * 2 + 1, none⟩ y) := ((Sep.Fr.refl (fun i => i = q) w').setCell ⟨q, s * 2, none⟩ rfl _).setCell ⟨q, s * 2 + 1, none⟩ rfl _
     obtain ⟨y0, y1, y2, y3, y4, y5⟩ := HQ5.out w' b
     exact ⟨hF.cell y0 (by simp; omega), hF.cell y1 (by simp; omega), hF.cell y2 (by simp; omega), hF.cell y3 (by simp; omega), hF.cell y4 (by simp; omega), hF.cell y5 (by simp; omega)⟩)
    have hb5 := drawn w5
    have hql : q < w5.heap.size := P5.out.t.list.lt
    have cf := (P4.out.went kB).t.list.free
    go_wp2
    go_region_held3 (fun w' => w'.cell? ⟨w.heap.size, 0, none⟩ = some (.pointer (some ⟨p, 0, none⟩)) /\ w'.cell? ⟨w.heap.size, 1, none⟩ = some lexV /\ w'.cell? ⟨p, 0, none⟩ = some (.slice (some ⟨q, 0, none⟩) n n) /\ w'.cell? ⟨rb, 0, none⟩ = some (.int .i64 (s : Int)) /\ w'.cell? ⟨wb, 0, none⟩ = some (.int .i64 (lenA (J U R) : Int)) /\ w'.cell? ⟨wb, 1, none⟩ = some (.slice ad (zAC (J U R)).length ac))
     (first | exact HQ5.out _ (by assumption) | exact HT5.out _ _ _ (by first | assumption | exact .refl _ _))
     (fail)
    go_wp2
    go_roundw
    case rel => exact ⟨j + 1, true, _, by omega, by go_num, rfl, L6.out, V1.out⟩
    case measure => simp [intOf]; omega
  ·have E := zPB (V.out.all hlt)
   go_wp2
   go_ret
   exact ⟨U, b, rfl, P.out.t, E.out, P.out.fr⟩
end Le
namespace Le
open Gr
open Rw (Bk)
def zOq (G : Gram) (w : World) (e : Ending) (w' : World) : Prop := ∃ v, e = .returned v /\ VAt (nilB G) v (ansT G) w' /\ Below w.heap.size w w'
def zN8 (G : Gram) (w : World) (e : Ending) (w' : World) : Prop := ∃ v, e = .returned v /\ VAt (nilB G) v (ansT G) w' /\ Below w.heap.size w w' /\ (nilB G = false -> OkS G 4096 (ansT G) /\ Cls G 4096 (ansT G))
def ORel (W : World) (h : Sh) (G : Gram) (fb p q n g : Nat) (w : World) : Prop :=
 ∃ T, Bx W h G w /\ Bk fb #[.pointer (some ⟨p, 0, none⟩), lexV] 93 w /\ TAt p q n T w /\ Inv G T /\ zB8 G 4096 T n + 1 <= g
theorem zNT (h : Sh) (G : Gram) (w : World) (k : GAt h G w) :
  Calls Tryz.prog 23 #[gv h G] w (zN8 G w) := by
 obtain ⟨a1, c1, a2, c2, a3, c3⟩ := h
 have X := zPB (Bx.start ⟨a1, c1, a2, c2, a3, c3⟩ G w 25)
 have C := zPB (fun w1 (b : Below w.heap.size w w1) => zBC ⟨a1, c1, a2, c2, a3, c3⟩ G w1 (k.went b))
 obtain ⟨x0, x1, x2, x3⟩ := X.out.box
 try dsimp only at x0 x1 x2 x3
 by_cases hc : checkN G = 0
 ·have SM := zPB (zMc hc)
  have LV := zPB (fun w1 (b : Below w.heap.size w w1) => zHv ⟨a1, c1, a2, c2, a3, c3⟩ G w1 (k.went b) SM.out)
  have PA := zPB (fun p q n T w1 (b : Below w.heap.size w w1) hn hq ht hv => zLq w ⟨a1, c1, a2, c2, a3, c3⟩ G p q n T w1 k SM.out hn b hq ht hv)
  have AN := zPB (show nilB G = false /\ ansT G = zD8 G from ⟨by unfold nilB; rw [decide_eq_true hc]; rfl, by unfold ansT; rw [if_pos hc]⟩)
  rw [hc] at C
  clear k hc
  unfold gv
  dsimp only
  go_enter Tryz.func23, Tryz.ntmps23
  go_wp2_with (first
   | (go_at_call 37; refine (C.out _ X.out.below).mono ?_; rintro e w1 ⟨rfl, hb⟩; have X1 := zPB (X.out.went hb); clear hb x0 x1 x2 x3; obtain ⟨x0, x1, x2, x3⟩ := X1.out.box; try dsimp only at x0 x1 x2 x3)
   | (go_at_call 42; refine (LV.out _ X1.out.below).mono ?_; rintro e w2 ⟨p, q, rfl, ht, hp, hq, hb⟩; have X2 := zPB (X1.out.went hb); have T2 := zPB ht; have hsz := X1.out.size; have LP : w.heap.size < p := (by omega); have LQ : w.heap.size < q := (by omega); clear hb ht hp hq hsz x0 x1 x2 x3))
  have bx := boxed w2 (.cells #[.pointer (some ⟨p, 0, none⟩), lexV] 93)
  have O0 := zPB (show ORel w ⟨a1, c1, a2, c2, a3, c3⟩ G w2.heap.size p q (top G + 1) (zB8 G 4096 (tab0 G) (top G + 1) + 1) (w2.alloc (.cells #[.pointer (some ⟨p, 0, none⟩), lexV] 93)) from
   ⟨tab0 G, X2.out.went bx, Bk.new w2 _ _ _ rfl, T2.out.went bx, zGr G, Nat.le_refl _⟩)
  have hfq : q < w2.heap.size := T2.out.list.lt
  generalize w2.heap.size = fb at *
  clear bx C LV X1 X2 X T2
  go_loopg [] (zB8 G 4096 (tab0 G) (top G + 1) + 1) (fun g wr => ORel w ⟨a1, c1, a2, c2, a3, c3⟩ G fb p q (top G + 1) g wr)
  case atStart => exact O0.out
  case round =>
   clear O0
   obtain ⟨T, hX, hF, hT, hV, hg⟩ := hrel
   have X := zPB hX
   have F := zPB hF
   have GG := zPB hg
   have PC := zPB (PA.out p q (top G + 1) T _ hX.below rfl (by omega) hT hV)
   obtain ⟨x0, x1, x2, x3⟩ := hX.box
   try dsimp only at x0 x1 x2 x3
   obtain ⟨f0, f1, ff⟩ := hF.two
   try dsimp only at PC
   clear hX hF hT hV hg
   go_wp2_with fail
   refine PC.out.mono ?_
   rintro e w5 ⟨U, b, rfl, ht, hp, hF⟩
   have X5 := zPB (zHi X.out hF (fun i hi => by omega))
   have F5 := zPB (F.out.fr hF (by omega))
   have T5 := zPB ht
   clear x0 x1 x2 x3 f0 f1 ff ht hF
   cases b with
   | true =>
    have HP := zPB (hp.yes rfl)
    have HI := zPB hp.inv
    clear hp
    go_wp2
    go_roundg (zB8 G 4096 U (top G + 1) + 1)
    case measure => have := GG.out; have := HP.out; omega
    case rel => exact ⟨U, X5.out, F5.out, T5.out, HI.out, Nat.le_refl _⟩
   | false =>
    have HI := zPB (zEo hp.inv.ok (hp.no rfl))
    have OC := zPB (show OkS G 4096 U /\ Cls G 4096 U from ⟨hp.inv.ok, hp.no rfl⟩)
    obtain ⟨f0, f1, ff⟩ := F5.out.two
    clear hp
    go_wp2
    go_ret
    exact ⟨_, rfl, .inr ⟨AN.out.1, p, q, top G + 1, rfl, by rw [AN.out.2, ← HI.out]; exact T5.out⟩, X5.out.below, fun _ => by rw [AN.out.2, ← HI.out]; exact OC.out⟩
 ·have AN := zPB (show nilB G = true /\ ansT G = fun _ => Ans.none from ⟨by unfold nilB; rw [decide_eq_false hc]; rfl, by unfold ansT; rw [if_neg hc]⟩)
  have hb : (checkN G != 0) = true := by simpa using hc
  clear k hc
  generalize checkN G = ck at *
  unfold gv
  dsimp only
  go_enter Tryz.func23, Tryz.ntmps23
  go_wp2_with (go_at_call 37; refine (C.out _ X.out.below).mono ?_; rintro e w1 ⟨rfl, hb⟩; have X1 := zPB (X.out.went hb); clear hb)
  go_ret
  exact ⟨_, rfl, .inl ⟨AN.out.1, rfl, AN.out.2⟩, X1.out.below, fun h => by rw [AN.out.1] at h; cases h⟩
theorem zCP (h : Sh) (G : Gram) (w : World) (k : GAt h G w) :
  Calls Tryz.prog 23 #[gv h G] w (zOq G w) :=
 (zNT h G w k).mono fun _ _ ⟨v, h1, h2, h3, _⟩ => ⟨v, h1, h2, h3⟩
end Le
namespace Le
open Gr
def GA : Gram := { terms := [⟨#[65]⟩, ⟨#[66]⟩], nons := [⟨#[115]⟩], rules := [(3, [1, 3]), (3, [2])], start := 3 }
theorem zGm : checkN GA = 0 := by
 refine zBj (by decide +kernel) ?_ (by decide +kernel) (by decide +kernel) (by decide +kernel) (by decide +kernel)
 have h1 : plnS ⟨#[65]⟩ = true := by decide +kernel
 have h2 : plnS ⟨#[66]⟩ = true := by decide +kernel
 have h3 : plnS ⟨#[115]⟩ = true := by decide +kernel
 simp [zBk, GA, h1, h2, h3]
def tA : Int -> Ans := fun s => if s = 0 then .is [] else if s = 1 then .is [1] else if s = 2 then .is [2] else if s = 3 then .is [2] else .none
theorem zO9 : OkS GA 4096 tA := by
 intro s
 unfold tA
 have t1 : Ws GA [1] [1] := .term (by decide) .nil
 have t2 : Ws GA [2] [2] := .term (by decide) .nil
 have t3 : Ws GA [3] [2] := Ws.one (r := (3, [2])) (by simp [GA]) t2
 split
 ·rename_i h
  subst h
  exact ⟨fun w hw => by injection hw with hw; subst hw; exact ⟨.zero .nil, by simp⟩, fun h => by cases h⟩
 ·split
  ·rename_i h
   subst h
   exact ⟨fun w hw => by injection hw with hw; subst hw; exact ⟨t1, by simp⟩, fun h => by cases h⟩
  ·split
   ·rename_i h
    subst h
    exact ⟨fun w hw => by injection hw with hw; subst hw; exact ⟨t2, by simp⟩, fun h => by cases h⟩
   ·split
    ·rename_i h
     subst h
     exact ⟨fun w hw => by injection hw with hw; subst hw; exact ⟨t3, by simp⟩, fun h => by cases h⟩
    ·exact ⟨(fun w hw => by cases hw), fun h => by cases h⟩
theorem zOi : Cls GA 4096 tA := by
 refine ⟨rfl, fun s hs => ?_, fun r hr => ?_⟩
 ·have h := zAR.1 hs
  have e : GA.terms.length = 2 := rfl
  rw [e] at h
  have : s = 1 \/ s = 2 := by omega
  rcases this with rfl | rfl <;> rfl
 ·simp only [GA, List.mem_cons, List.not_mem_nil, or_false] at hr
  rcases hr with rfl | rfl <;> rfl
theorem zOj : ansT GA = tA := by
 unfold ansT
 rw [if_pos zGm]
 exact (zEo zO9 zOi).symm
theorem zMe : nilB GA = false := by
 unfold nilB
 rw [decide_eq_true zGm]
 rfl
def aw (W : World) : World :=
 (((((W.alloc (.cells #[.string ⟨#[65]⟩, .string ⟨#[66]⟩] 9)).alloc (.cells #[.string ⟨#[115]⟩] 9)).alloc (.cells #[.int .i64 1, .int .i64 3] 3)).alloc (.cells #[.int .i64 2] 3)).alloc
  (.cells #[.int .i64 3, .slice (some ⟨W.heap.size + 1 + 1, 0, none⟩) 2 2, .int .i64 3, .slice (some ⟨W.heap.size + 1 + 1 + 1, 0, none⟩) 1 1] 59)).alloc
  (.cells #[.slice (some ⟨W.heap.size, 0, none⟩) 2 2, .slice (some ⟨W.heap.size + 1, 0, none⟩) 1 1, .slice (some ⟨W.heap.size + 1 + 1 + 1 + 1, 0, none⟩) 2 2, .int .i64 3] 25)
def ah (W : World) : Sh := ⟨some ⟨W.heap.size, 0, none⟩, 2, some ⟨W.heap.size + 1, 0, none⟩, 1, some ⟨W.heap.size + 1 + 1 + 1 + 1, 0, none⟩, 2⟩
theorem zGh (W : World) : Below W.heap.size W (aw W) := Gr.step (Gr.step (Gr.step (Gr.step (Gr.step (boxed _ _) (boxed _ _)) (boxed _ _)) (boxed _ _)) (boxed _ _)) (boxed _ _)
theorem fitz (x : Int) (h : -1000 <= x) (k : x <= 1000) : Fits x := ⟨by omega, by omega⟩
theorem zOF (W : World) : GAt (ah W) GA (aw W) := by
 refine ⟨fun i hi => ?_, fun i hi => ?_, fun i hi => ?_, by simp [ah, GA], by simp [GA], by simp [GA], by simp [ah, GA], by simp [GA], ⟨?_, ?_, fitz _ (by decide) (by decide), ?_, ?_⟩⟩
 ·have h2 : i < 2 := hi
  refine ⟨W.heap.size, 0, rfl, ?_⟩
  have : i = 0 \/ i = 1 := by omega
  rcases this with rfl | rfl <;> exact zAJ (zAJ (zAJ (zAJ (zAJ (zAB rfl rfl)))))
 ·refine ⟨W.heap.size + 1, 0, rfl, ?_⟩
  have h2 : i < 1 := hi
  obtain rfl : i = 0 := by omega
  exact zAJ (zAJ (zAJ (zAJ (zAB (by simp) rfl))))
 ·have h2 : i < 2 := hi
  have : i = 0 \/ i = 1 := by omega
  rcases this with rfl | rfl
  ·refine ⟨W.heap.size + 1 + 1 + 1 + 1, 0, some ⟨W.heap.size + 1 + 1, 0, none⟩, 2, rfl, zAJ (zAB (by simp) rfl), zAJ (zAB (by simp) rfl), fun j hj => ?_, by simp [GA], by simp [GA]⟩
   have h3 : j < 2 := hj
   refine ⟨W.heap.size + 1 + 1, 0, rfl, ?_⟩
   have : j = 0 \/ j = 1 := by omega
   rcases this with rfl | rfl <;> exact zAJ (zAJ (zAJ (zAB (by simp) rfl)))
  ·refine ⟨W.heap.size + 1 + 1 + 1 + 1, 0, some ⟨W.heap.size + 1 + 1 + 1, 0, none⟩, 1, rfl, zAJ (zAB (by simp) rfl), zAJ (zAB (by simp) rfl), fun j hj => ?_, by simp [GA], by simp [GA]⟩
   have h3 : j < 1 := hj
   obtain rfl : j = 0 := by omega
   exact ⟨W.heap.size + 1 + 1 + 1, 0, rfl, zAJ (zAJ (zAB (by simp) rfl))⟩
 ·intro s hs
  simp only [GA, List.mem_cons, List.not_mem_nil, or_false] at hs
  rcases hs with rfl | rfl <;> simp [ByteArray.size]
 ·intro s hs
  simp only [GA, List.mem_cons, List.not_mem_nil, or_false] at hs
  subst hs
  simp [ByteArray.size]
 ·intro r hr
  simp only [GA, List.mem_cons, List.not_mem_nil, or_false] at hr
  rcases hr with rfl | rfl <;> exact fitz _ (by decide) (by decide)
 ·intro r hr x hx
  simp only [GA, List.mem_cons, List.not_mem_nil, or_false] at hr
  rcases hr with rfl | rfl
  ·simp only [List.mem_cons, List.not_mem_nil, or_false] at hx
   rcases hx with rfl | rfl <;> exact fitz _ (by decide) (by decide)
  ·simp only [List.mem_cons, List.not_mem_nil, or_false] at hx
   subst hx
   exact fitz _ (by decide) (by decide)
