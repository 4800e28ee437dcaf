/- A part of the proof. -/
import Derived.Test.YtnfbjlainpenaaaGreatPk21
set_option maxHeartbeats 16000000
set_option maxRecDepth 100000
set_option linter.unusedVariables false
namespace Go.Proofs.YtnfbjlainpenaaaGreat
namespace Le
open Go.RowKit Go.Maps
open Gr
open Rw (Bk)
structure PSt (W0 W : World) (p q n : Nat) (T : Int -> Ans) (w : World) : Prop where
 f : Bk W.heap.size #[.pointer (some ⟨p, 0, none⟩), lexV] 93 w
 t : TAt p q n T w
 fr : Sep.Fr (fun k => k = q) W w
 b0 : Below W0.heap.size W0 w
 lq : q < W.heap.size
 hq : W0.heap.size <= q
theorem PSt.went {W0 W : World} {p q n : Nat} {T : Int -> Ans} {w w' : World} (k : PSt W0 W p q n T w) (hb : Below w.heap.size w w') : PSt W0 W p q n T w' :=
 ⟨k.f.went hb, k.t.went hb, Rw.zH8 k.fr hb, Gr.step k.b0 hb, k.lq, k.hq⟩
theorem PSt.put {W0 W : World} {p q n : Nat} {T : Int -> Ans} {w : World} (k : PSt W0 W p q n T w) {s : Nat} (hs : s < n) {a : Ans} {v : Value} (hv : WAt q (zAK a) v w) (ha : Bd a) :
  PSt W0 W p q n (setA T (s : Int) a) ((w.setCell ⟨q, s * 2, none⟩ (.int .i64 (lenA a : Int))).setCell ⟨q, s * 2 + 1, none⟩ v) := by
 have hF : Sep.Fr (fun i => i = q) w ((w.setCell ⟨q, s * 2, none⟩ (.int .i64 (lenA a : Int))).setCell ⟨q, s * 2 + 1, none⟩ v) :=
  ((Sep.Fr.refl (fun i => i = q) w).setCell ⟨q, s * 2, none⟩ rfl _).setCell ⟨q, s * 2 + 1, none⟩ rfl _
 have := k.lq
 have hq := k.hq
 exact ⟨k.f.fr hF (by omega), k.t.set hs hv ha, k.fr.trans hF fun _ h => .inl h, k.b0.trans (hF.below (fun i hi => by omega) k.b0.size), k.lq, k.hq⟩
def zLJ (G : Gram) (p q n : Nat) (T0 : Int -> Ans) (w : World) (e : Ending) (w' : World) : Prop :=
 ∃ T b, e = .returned (.bool b) /\ TAt p q n T w' /\ Passed G n T0 T b /\ Sep.Fr (fun k => k = q) w w'
def PRel (W0 W : World) (G : Gram) (p q n : Nat) (T0 : Int -> Ans) (m i : Value) (w : World) : Prop :=
 ∃ (j : Nat) (b : Bool) (T : Int -> Ans), j <= G.rules.length /\ i = .int .i64 j /\ m = .bool b /\ PSt W0 W p q n T w /\ Tried G n T0 j T b
structure PCells (W : World) (p q n s : Nat) (u0 u1 : Value) (rb wb : Nat) (x0 x1 : Value) (w : World) : Prop where
 f0 : w.cell? ⟨W.heap.size, 0, none⟩ = some (.pointer (some ⟨p, 0, none⟩))
 f1 : w.cell? ⟨W.heap.size, 1, none⟩ = some lexV
 pp : w.cell? ⟨p, 0, none⟩ = some (.slice (some ⟨q, 0, none⟩) n n)
 rr : w.cell? ⟨rb, 0, none⟩ = some (.int .i64 (s : Int))
 w0 : w.cell? ⟨wb, 0, none⟩ = some x0
 w1 : w.cell? ⟨wb, 1, none⟩ = some x1
 l0 : w.cell? ⟨q, s * 2, none⟩ = some u0
 l1 : w.cell? ⟨q, s * 2 + 1, none⟩ = some u1
theorem PCells.later {W : World} {p q n s : Nat} {u0 u1 : Value} {rb wb : Nat} {x0 x1 : Value} {w w' : World} (k : PCells W p q n s u0 u1 rb wb x0 x1 w) (hb : Below w.heap.size w w') :
  w'.cell? ⟨W.heap.size, 0, none⟩ = some (.pointer (some ⟨p, 0, none⟩)) /\ w'.cell? ⟨W.heap.size, 1, none⟩ = some lexV /\ w'.cell? ⟨p, 0, none⟩ = some (.slice (some ⟨q, 0, none⟩) n n) /\ w'.cell? ⟨rb, 0, none⟩ = some (.int .i64 (s : Int)) /\
   w'.cell? ⟨wb, 0, none⟩ = some x0 /\ w'.cell? ⟨wb, 1, none⟩ = some x1 /\ w'.cell? ⟨q, s * 2, none⟩ = some u0 /\ w'.cell? ⟨q, s * 2 + 1, none⟩ = some u1 /\ Below w.heap.size w w' :=
 ⟨cell_later hb k.f0, cell_later hb k.f1, cell_later hb k.pp, cell_later hb k.rr, cell_later hb k.w0, cell_later hb k.w1, cell_later hb k.l0, cell_later hb k.l1, hb⟩
theorem zKX (W0 : World) (h : Sh) (G : Gram) (p q n : Nat) (T : Int -> Ans) (w : World) (k : GAt h G W0) (hs : Sml G) (hn : n = top G + 1) (hb : Below W0.heap.size W0 w) (hq : W0.heap.size <= q) (ht : TAt p q n T w) (hv : Inv G T) :
  Calls Tryz.prog 44 #[.agg #[.pointer (some ⟨p, 0, none⟩), lexV], .slice h.a3 G.rules.length h.c3] w (zLJ G p q n T w) := by
 obtain ⟨a1, c1, a2, c2, a3, c3⟩ := h
 have P0 := zNR (show PSt W0 w p q n T (w.alloc (.cells #[.pointer (some ⟨p, 0, none⟩), lexV] 93)) from
  ⟨Bk.new w _ _ _ rfl, ht.went (boxed _ _), Sep.Fr.of_below (boxed _ _), Gr.step hb (boxed _ _), ht.list.lt, hq⟩)
 have V0 := zNR (zHV (n := n) hv)
 have RU := zNR k.rules
 have hrl := hs.r
 have KN := zNR (fun j (hj : j < G.rules.length) => show nonB G G.rules[j].1 = true by have := zCm hs.known hj; rwa [zBj hj] at this)
 have HW := zNR hs.w
 have HN := zNR hn
 have HT := zNR (show top G = G.terms.length + G.nons.length from rfl)
 clear k hs hb hq ht hv hn
 dsimp only
 go_enter Tryz.func44, Tryz.ntmps44
 go_wp2
 go_loopw [5, 11] (fun m i wr => PRel W0 w G p q n T m i wr) (fun _ i _ => G.rules.length - (intOf i).toNat)
 case atStart => exact ⟨0, false, T, Nat.zero_le _, rfl, rfl, P0.out, V0.out⟩
 case round =>
  clear P0 V0
  obtain ⟨j, b, U, hj, rfl, rfl, hP, hV⟩ := hrel
  have P := zNR hP
  have V := zNR hV
  clear hP hV
  by_cases hlt : j < G.rules.length
  ·obtain ⟨bb, o, ra, rc, e, h1, h2, h3, h4, h5⟩ := RU.out j hlt
   try dsimp only at e
   subst e
   replace h1 := cell_later P.out.b0 h1
   replace h2 := cell_later P.out.b0 h2
   replace h3 := Sep.Reads.below h3 P.out.b0 (Nat.le_refl _)
   have hnn := KN.out j hlt
   have SK := zNR (V.out.skip hlt)
   have PU := zNR (fun a b => V.out.put hlt hnn a b)
   have hr8 := HW.out _ (List.getElem_mem hlt)
   generalize G.rules[j] = r at h1 h2 h3 h4 h5 hnn SK PU hr8
   obtain ⟨left, R⟩ := r
   dsimp only at h1 h2 h3 h4 h5 hnn SK PU hr8
   rw [zAW] at hnn
   obtain ⟨s, rfl⟩ : ∃ s : Nat, left = (s : Int) := ⟨left.toNat, by omega⟩
   have hsn : s < n := by have := HN.out; have := HT.out; omega
   have PU := zNR (PU.out (by omega) (by omega))
   have bx1 := boxed wr (.cells #[.int .i64 (s : Int), .slice ra R.length rc] 59)
   have P1 := zNR (P.out.went bx1)
   have R1 := zNR (Bk.new wr #[.int .i64 (s : Int), .slice ra R.length rc] 59 _ rfl)
   have JC := zNR (zF0 false (.pointer (some ⟨p, 0, none⟩)) U R ra rc _ (.inr ⟨rfl, p, q, n, rfl, P1.out.t⟩) (Sep.Reads.below h3 bx1 (Nat.le_refl _)) (by omega))
   obtain ⟨f0, f1, ff⟩ := P.out.f.two
   have hwl : w.heap.size < wr.heap.size := P.out.f.lt
   clear h3 hnn bx1
   go_wp2_with (go_at_call 47; refine JC.out.mono ?_; rintro e w3 ⟨ad, ac, rfl, hR, hN, hb⟩)
   have bx3 := boxed w3 (.cells #[.int .i64 (lenA (J U R) : Int), .slice ad (zAK (J U R)).length ac] 101)
   have P4 := zNR ((P1.out.went hb).went bx3)
   have R4 := zNR ((R1.out.went hb).went bx3)
   have Q4 := zNR (Bk.new w3 #[.int .i64 (lenA (J U R) : Int), .slice ad (zAK (J U R)).length ac] 101 _ rfl)
   have RD := zNR (Sep.Reads.below hR bx3 (Nat.le_refl _))
   have hrb : q < wr.heap.size := P.out.t.list.lt
   have hwb : q < w3.heap.size := (P1.out.went hb).t.list.lt
   have hqw : q < (wr.alloc (.cells #[.int .i64 (s : Int), .slice ra R.length rc] 59)).heap.size := P1.out.t.list.lt
   have WN := zNR (fun w1 hR => zMY (q := q) (x := zAK (J U R)) (w := w1) (c := ac) hR hN hqw rfl)
   clear hR hN hb bx3 h1 h2 f0 f1 ff hwl P1 R1 P JC hqw
   generalize w3.alloc (.cells #[.int .i64 (lenA (J U R) : Int), .slice ad (zAK (J U R)).length ac] 101) = W4 at *
   generalize w3.heap.size = wb at *
   generalize wr.heap.size = rb at *
   obtain ⟨uv, l1, ua, uc, rfl, hRu, _⟩ := P4.out.t.list.word s hsn
   have bdU := P4.out.t.ok.bnd (s : Int)
   have PC := zNR (PCells.mk (P4.out.f.two.1) (P4.out.f.two.2.1) P4.out.t.ptr (R4.out.two.1) (Q4.out.two.1) (Q4.out.two.2.1) (P4.out.t.list.len s hsn) l1)
   have SM := zNR (fun w1 (b : Below W4.heap.size W4 w1) => zFg (some ⟨p, 0, none⟩) (J U R) (U (s : Int)) ad ua ac uc w1 (RD.out.below b (Nat.le_refl _)) (Sep.Reads.below hRu b (Nat.le_refl _)) (zBL _ _) bdU)
   have HQ := zNR (fun w' => PC.out.later (w' := w'))
   have hbd := drawn W4
   have hwn := P4.out.t.small
   clear l1 hRu bdU
   cases hbt : zAY (J U R) (U (s : Int)) with
   | false =>
    have V1 := zNR (SK.out hbt)
    rw [hbt] at SM
    clear hbt SK PU WN
    go_region_held3 (fun w' => w'.cell? ⟨w.heap.size, 0, none⟩ = some (.pointer (some ⟨p, 0, none⟩)) /\ w'.cell? ⟨w.heap.size, 1, none⟩ = some lexV /\ w'.cell? ⟨p, 0, none⟩ = some (.slice (some ⟨q, 0, none⟩) n n) /\ w'.cell? ⟨rb, 0, none⟩ = some (.int .i64 (s : Int)) /\
      w'.cell? ⟨wb, 0, none⟩ = some (.int .i64 (lenA (J U R) : Int)) /\ w'.cell? ⟨wb, 1, none⟩ = some (.slice ad (zAK (J U R)).length ac) /\ w'.cell? ⟨q, s * 2, none⟩ = some (.int .i64 (lenA (U (s : Int)) : Int)) /\ w'.cell? ⟨q, s * 2 + 1, none⟩ = some (.slice ua (zAK (U (s : Int))).length uc) /\ Below W4.heap.size W4 w')
     (exact HQ.out _ (by assumption))
     (first
      | (go_at_call 74; refine (SM.out _ hbd).mono ?_; rintro e w5 ⟨rfl, hb⟩; have kB : Below W4.heap.size W4 w5 := Gr.step hbd hb; clear hb)
      | fail)
    go_wp2
    go_roundw
    case rel => exact ⟨j + 1, b, U, by omega, by go_num, rfl, P4.out.went kB, V1.out⟩
    case measure => simp [intOf]; omega
   | true =>
    have V1 := zNR (PU.out hbt)
    rw [hbt] at SM
    clear hbt SK PU
    go_region_held3 (fun w' => w'.cell? ⟨w.heap.size, 0, none⟩ = some (.pointer (some ⟨p, 0, none⟩)) /\ w'.cell? ⟨w.heap.size, 1, none⟩ = some lexV /\ w'.cell? ⟨p, 0, none⟩ = some (.slice (some ⟨q, 0, none⟩) n n) /\ w'.cell? ⟨rb, 0, none⟩ = some (.int .i64 (s : Int)) /\
      w'.cell? ⟨wb, 0, none⟩ = some (.int .i64 (lenA (J U R) : Int)) /\ w'.cell? ⟨wb, 1, none⟩ = some (.slice ad (zAK (J U R)).length ac) /\ w'.cell? ⟨q, s * 2, none⟩ = some (.int .i64 (lenA (U (s : Int)) : Int)) /\ w'.cell? ⟨q, s * 2 + 1, none⟩ = some (.slice ua (zAK (U (s : Int))).length uc) /\ Below W4.heap.size W4 w')
     (exact HQ.out _ (by assumption))
     (first
      | (go_at_call 74; refine (SM.out _ hbd).mono ?_; rintro e w5 ⟨rfl, hb⟩; have kB : Below W4.heap.size W4 w5 := Gr.step hbd hb; clear hb)
      | fail)
    have P5 := zNR (P4.out.went kB)
    have L6 := zNR ((P5.out.put hsn (WN.out _ (RD.out.below kB (Nat.le_refl _))) (zBL U R)).went (drawn _))
    have hlq := P4.out.lq
    have hne := P4.out.t.ne
    have HQ5 := zNR (show ∀ w', Below w5.heap.size w5 w' -> w'.cell? ⟨w.heap.size, 0, none⟩ = some (.pointer (some ⟨p, 0, none⟩)) /\ w'.cell? ⟨w.heap.size, 1, none⟩ = some lexV /\ w'.cell? ⟨p, 0, none⟩ = some (.slice (some ⟨q, 0, none⟩) n n) /\ w'.cell? ⟨rb, 0, none⟩ = some (.int .i64 (s : Int)) /\ w'.cell? ⟨wb, 0, none⟩ = some (.int .i64 (lenA (J U R) : Int)) /\ w'.cell? ⟨wb, 1, none⟩ = some (.slice ad (zAK (J U R)).length ac) from fun w' b => by
     obtain ⟨y0, y1, y2, y3, y4, y5, _⟩ := HQ.out w' (Gr.step kB b)
     exact ⟨y0, y1, y2, y3, y4, y5⟩)
    have HT5 := zNR (show ∀ w'' x y, Below w5.heap.size w5 w'' -> (fun w' => w'.cell? ⟨w.heap.size, 0, none⟩ = some (.pointer (some ⟨p, 0, none⟩)) /\ w'.cell? ⟨w.heap.size, 1, none⟩ = some lexV /\ w'.cell? ⟨p, 0, none⟩ = some (.slice (some ⟨q, 0, none⟩) n n) /\ w'.cell? ⟨rb, 0, none⟩ = some (.int .i64 (s : Int)) /\ w'.cell? ⟨wb, 0, none⟩ = some (.int .i64 (lenA (J U R) : Int)) /\ w'.cell? ⟨wb, 1, none⟩ = some (.slice ad (zAK (J U R)).length ac)) ((w''.setCell ⟨q, s * 2, none⟩ x).setCell ⟨q, s * 2 + 1, none⟩ y) from fun w' x y b => by
     have hF : Sep.Fr (fun i => i = q) w' ((w'.setCell ⟨q, s * 2, none⟩ x).setCell ⟨q, s * 2 + 1, none⟩ y) := ((Sep.Fr.refl (fun i => i = q) w').setCell ⟨q, s * 2, none⟩ rfl _).setCell ⟨q, s * 2 + 1, none⟩ rfl _
     obtain ⟨y0, y1, y2, y3, y4, y5⟩ := HQ5.out w' b
     exact ⟨hF.cell y0 (by simp; omega), hF.cell y1 (by simp; omega), hF.cell y2 (by simp; omega), hF.cell y3 (by simp; omega), hF.cell y4 (by simp; omega), hF.cell y5 (by simp; omega)⟩)
    have hb5 := drawn w5
    have hql : q < w5.heap.size := P5.out.t.list.lt
    have cf := (P4.out.went kB).t.list.free
    go_wp2
    go_region_held3 (fun w' => w'.cell? ⟨w.heap.size, 0, none⟩ = some (.pointer (some ⟨p, 0, none⟩)) /\ w'.cell? ⟨w.heap.size, 1, none⟩ = some lexV /\ w'.cell? ⟨p, 0, none⟩ = some (.slice (some ⟨q, 0, none⟩) n n) /\ w'.cell? ⟨rb, 0, none⟩ = some (.int .i64 (s : Int)) /\ w'.cell? ⟨wb, 0, none⟩ = some (.int .i64 (lenA (J U R) : Int)) /\ w'.cell? ⟨wb, 1, none⟩ = some (.slice ad (zAK (J U R)).length ac))
     (first | exact HQ5.out _ (by assumption) | exact HT5.out _ _ _ (by first | assumption | exact .refl _ _))
     (fail)
    go_wp2
    go_roundw
    case rel => exact ⟨j + 1, true, _, by omega, by go_num, rfl, L6.out, V1.out⟩
    case measure => simp [intOf]; omega
  ·have E := zNR (V.out.all hlt)
   go_wp2
   go_ret
   exact ⟨U, b, rfl, P.out.t, E.out, P.out.fr⟩
