/- A part of the proof. -/
import Derived.Deep.LoopGhost
import Derived.Laws.EntriesVeiled
import Derived.Test.YtnfbjlainpenaaaGreatPk22
set_option maxHeartbeats 16000000
set_option maxRecDepth 100000
set_option linter.unusedVariables false
namespace Go.Proofs.YtnfbjlainpenaaaGreat
open Go.RowKit Go.Maps
namespace Le
open Gr (step boxed ivs)
open Rw (Bk)
def zD9 (nl : Bool) (T : Int -> Ans) (l : List Int) : Ans := if nl = true then .none else J T l
def zLI (a : Ans) (w : World) (e : Ending) (w' : World) : Prop :=
 ∃ ad c, e = .returned (.tuple #[.slice ad (zAK a).length c, .bool (isA a)]) /\ Sep.Reads ad (ivs (zAK a)) w' /\ Below w.heap.size w w'
theorem zKy {v : Value} {x r : Bool} (h : x = r) : Ending.returned (.tuple #[v, .bool r]) = .returned (.tuple #[v, .bool x]) := by rw [h]
theorem zFt (w : World) (n : Nat) : Below w.heap.size w (w.drewN n) := ⟨rfl, rfl, rfl, Nat.le_refl _, fun _ _ => rfl⟩
theorem zKF (nl : Bool) (v : Value) (T : Int -> Ans) (l : List Int) (a : Option Addr) (c : Nat) (w : World) (h : VAt nl v T w) (hR : Sep.Reads a (ivs l) w) (hl : l.length <= 17592186044416) :
  Calls Tryz.prog 27 #[v, .slice a l.length c] w (zLI (zD9 nl T l) w) := by
 have JC := zNR (zF0 nl v T l a c w h hR hl)
 rcases h with ⟨rfl, rfl, rfl⟩ | ⟨rfl, p, q, n, rfl, h⟩
 ·clear JC hR
  go_enter Tryz.func27, Tryz.ntmps27
  go_wp2
  go_ret2
  exact ⟨none, 0, rfl, .nil _ _, .refl _ _⟩
 ·have E := zNR (show zD9 false T l = J T l from if_neg (by decide))
  have LI := zNR (zIY (zBL T l))
  rw [E.out]
  clear h hR E
  generalize J T l = j at *
  go_enter Tryz.func27, Tryz.ntmps27
  go_wp2_with (go_at_call 47; refine JC.out.mono ?_; rintro e w1 ⟨ad, ac, rfl, hR, hN, hb⟩)
  have bx := boxed w1 (.cells #[.int .i64 (lenA j : Int), .slice ad (zAK j).length ac] 101)
  have RR := zNR (Sep.Reads.below hR bx (Nat.le_refl _))
  have B1 := zNR (Gr.step hb bx)
  obtain ⟨y0, y1, yf⟩ := (Bk.new w1 #[.int .i64 (lenA j : Int), .slice ad (zAK j).length ac] 101 _ rfl).two
  have EB := zNR (show isA j = decide ((lenA j : Int) <= 4096) by rw [Bool.eq_iff_iff, decide_eq_true_iff, ← LI.out]; omega)
  clear hR hN hb bx
  go_quiet (fail)
  go_wp2
  go_ret2
  exact ⟨ad, ac, zKy EB.out, RR.out.below (zFt _ _) (Nat.le_refl _), Gr.step B1.out (zFt _ _)⟩
end Le
namespace Le
open Gr
open Rw (Bk)
def zNA (G : Gram) (w : World) (e : Ending) (w' : World) : Prop := ∃ v, e = .returned v /\ VAt (nilB G) v (ansT G) w' /\ Below w.heap.size w w'
def zMa (G : Gram) (w : World) (e : Ending) (w' : World) : Prop := ∃ v, e = .returned v /\ VAt (nilB G) v (ansT G) w' /\ Below w.heap.size w w' /\ (nilB G = false -> OkS G 4096 (ansT G) /\ Cls G 4096 (ansT G))
def ORel (W : World) (h : Sh) (G : Gram) (fb p q n g : Nat) (w : World) : Prop :=
 ∃ T, Bx W h G w /\ Bk fb #[.pointer (some ⟨p, 0, none⟩), lexV] 93 w /\ TAt p q n T w /\ Inv G T /\ zCa G 4096 T n + 1 <= g
theorem zL1 (h : Sh) (G : Gram) (w : World) (k : GAt h G w) :
  Calls Tryz.prog 23 #[gv h G] w (zMa G w) := by
 obtain ⟨a1, c1, a2, c2, a3, c3⟩ := h
 have X := zNR (Bx.start ⟨a1, c1, a2, c2, a3, c3⟩ G w 25)
 have C := zNR (fun w1 (b : Below w.heap.size w w1) => zAz ⟨a1, c1, a2, c2, a3, c3⟩ G w1 (k.went b))
 obtain ⟨x0, x1, x2, x3⟩ := X.out.box
 try dsimp only at x0 x1 x2 x3
 by_cases hc : checkN G = 0
 ·have SM := zNR (zM2 hc)
  have LV := zNR (fun w1 (b : Below w.heap.size w w1) => zGy ⟨a1, c1, a2, c2, a3, c3⟩ G w1 (k.went b) SM.out)
  have PA := zNR (fun p q n T w1 (b : Below w.heap.size w w1) hn hq ht hv => zKX w ⟨a1, c1, a2, c2, a3, c3⟩ G p q n T w1 k SM.out hn b hq ht hv)
  have AN := zNR (show nilB G = false /\ ansT G = zEi G from ⟨by unfold nilB; rw [decide_eq_true hc]; rfl, by unfold ansT; rw [if_pos hc]⟩)
  rw [hc] at C
  clear k hc
  unfold gv
  dsimp only
  go_enter Tryz.func23, Tryz.ntmps23
  go_wp2_with (first
   | (go_at_call 37; refine (C.out _ X.out.below).mono ?_; rintro e w1 ⟨rfl, hb⟩; have X1 := zNR (X.out.went hb); clear hb x0 x1 x2 x3; obtain ⟨x0, x1, x2, x3⟩ := X1.out.box; try dsimp only at x0 x1 x2 x3)
   | (go_at_call 42; refine (LV.out _ X1.out.below).mono ?_; rintro e w2 ⟨p, q, rfl, ht, hp, hq, hb⟩; have X2 := zNR (X1.out.went hb); have T2 := zNR ht; have hsz := X1.out.size; have LP : w.heap.size < p := (by omega); have LQ : w.heap.size < q := (by omega); clear hb ht hp hq hsz x0 x1 x2 x3))
  have bx := boxed w2 (.cells #[.pointer (some ⟨p, 0, none⟩), lexV] 93)
  have O0 := zNR (show ORel w ⟨a1, c1, a2, c2, a3, c3⟩ G w2.heap.size p q (top G + 1) (zCa G 4096 (tab0 G) (top G + 1) + 1) (w2.alloc (.cells #[.pointer (some ⟨p, 0, none⟩), lexV] 93)) from
   ⟨tab0 G, X2.out.went bx, Bk.new w2 _ _ _ rfl, T2.out.went bx, zJ5 G, Nat.le_refl _⟩)
  have hfq : q < w2.heap.size := T2.out.list.lt
  generalize w2.heap.size = fb at *
  clear bx C LV X1 X2 X T2
  go_loopg [] (zCa G 4096 (tab0 G) (top G + 1) + 1) (fun g wr => ORel w ⟨a1, c1, a2, c2, a3, c3⟩ G fb p q (top G + 1) g wr)
  case atStart => exact O0.out
  case round =>
   clear O0
   obtain ⟨T, hX, hF, hT, hV, hg⟩ := hrel
   have X := zNR hX
   have F := zNR hF
   have GG := zNR hg
   have PC := zNR (PA.out p q (top G + 1) T _ hX.below rfl (by omega) hT hV)
   obtain ⟨x0, x1, x2, x3⟩ := hX.box
   try dsimp only at x0 x1 x2 x3
   obtain ⟨f0, f1, ff⟩ := hF.two
   try dsimp only at PC
   clear hX hF hT hV hg
   go_wp2_with fail
   refine PC.out.mono ?_
   rintro e w5 ⟨U, b, rfl, ht, hp, hF⟩
   have X5 := zNR (zHp X.out hF (fun i hi => by omega))
   have F5 := zNR (F.out.fr hF (by omega))
   have T5 := zNR ht
   clear x0 x1 x2 x3 f0 f1 ff ht hF
   cases b with
   | true =>
    have HP := zNR (hp.yes rfl)
    have HI := zNR hp.inv
    clear hp
    go_wp2
    go_roundg (zCa G 4096 U (top G + 1) + 1)
    case measure => have := GG.out; have := HP.out; omega
    case rel => exact ⟨U, X5.out, F5.out, T5.out, HI.out, Nat.le_refl _⟩
   | false =>
    have HI := zNR (zF4 hp.inv.ok (hp.no rfl))
    have OC := zNR (show OkS G 4096 U /\ Cls G 4096 U from ⟨hp.inv.ok, hp.no rfl⟩)
    obtain ⟨f0, f1, ff⟩ := F5.out.two
    clear hp
    go_wp2
    go_ret
    exact ⟨_, rfl, .inr ⟨AN.out.1, p, q, top G + 1, rfl, by rw [AN.out.2, ← HI.out]; exact T5.out⟩, X5.out.below, fun _ => by rw [AN.out.2, ← HI.out]; exact OC.out⟩
 ·have AN := zNR (show nilB G = true /\ ansT G = fun _ => Ans.none from ⟨by unfold nilB; rw [decide_eq_false hc]; rfl, by unfold ansT; rw [if_neg hc]⟩)
  have hb : (checkN G != 0) = true := by simpa using hc
  clear k hc
  generalize checkN G = ck at *
  unfold gv
  dsimp only
  go_enter Tryz.func23, Tryz.ntmps23
  go_wp2_with (go_at_call 37; refine (C.out _ X.out.below).mono ?_; rintro e w1 ⟨rfl, hb⟩; have X1 := zNR (X.out.went hb); clear hb)
  go_ret
  exact ⟨_, rfl, .inl ⟨AN.out.1, rfl, AN.out.2⟩, X1.out.below, fun h => by rw [AN.out.1] at h; cases h⟩
theorem zCW (h : Sh) (G : Gram) (w : World) (k : GAt h G w) :
  Calls Tryz.prog 23 #[gv h G] w (zNA G w) :=
 (zL1 h G w k).mono fun _ _ ⟨v, h1, h2, h3, _⟩ => ⟨v, h1, h2, h3⟩
end Le
namespace Le
open Gr
def GA : Gram := { terms := [⟨#[65]⟩, ⟨#[66]⟩], nons := [⟨#[115]⟩], rules := [(3, [1, 3]), (3, [2])], start := 3 }
theorem zFv : checkN GA = 0 := by
 refine zBX (by decide +kernel) ?_ (by decide +kernel) (by decide +kernel) (by decide +kernel) (by decide +kernel)
 have h1 : plnS ⟨#[65]⟩ = true := by decide +kernel
 have h2 : plnS ⟨#[66]⟩ = true := by decide +kernel
 have h3 : plnS ⟨#[115]⟩ = true := by decide +kernel
 simp [zBY, GA, h1, h2, h3]
def tA : Int -> Ans := fun s => if s = 0 then .is [] else if s = 1 then .is [1] else if s = 2 then .is [2] else if s = 3 then .is [2] else .none
theorem zNP : OkS GA 4096 tA := by
 intro s
 unfold tA
 have t1 : Ws GA [1] [1] := .term (by decide) .nil
 have t2 : Ws GA [2] [2] := .term (by decide) .nil
 have t3 : Ws GA [3] [2] := Ws.one (r := (3, [2])) (by simp [GA]) t2
 split
 ·rename_i h
  subst h
  exact ⟨fun w hw => by injection hw with hw; subst hw; exact ⟨.zero .nil, by simp⟩, fun h => by cases h⟩
 ·split
  ·rename_i h
   subst h
   exact ⟨fun w hw => by injection hw with hw; subst hw; exact ⟨t1, by simp⟩, fun h => by cases h⟩
  ·split
   ·rename_i h
    subst h
    exact ⟨fun w hw => by injection hw with hw; subst hw; exact ⟨t2, by simp⟩, fun h => by cases h⟩
   ·split
    ·rename_i h
     subst h
     exact ⟨fun w hw => by injection hw with hw; subst hw; exact ⟨t3, by simp⟩, fun h => by cases h⟩
    ·exact ⟨(fun w hw => by cases hw), fun h => by cases h⟩
theorem zM4 : Cls GA 4096 tA := by
 refine ⟨rfl, fun s hs => ?_, fun r hr => ?_⟩
 ·have h := zAN.1 hs
  have e : GA.terms.length = 2 := rfl
  rw [e] at h
  have : s = 1 \/ s = 2 := by omega
  rcases this with rfl | rfl <;> rfl
 ·simp only [GA, List.mem_cons, List.not_mem_nil, or_false] at hr
  rcases hr with rfl | rfl <;> rfl
theorem zM5 : ansT GA = tA := by
 unfold ansT
 rw [if_pos zFv]
 exact (zF4 zNP zM4).symm
theorem zLH : nilB GA = false := by
 unfold nilB
 rw [decide_eq_true zFv]
 rfl
def aw (W : World) : World :=
 (((((W.alloc (.cells #[.string ⟨#[65]⟩, .string ⟨#[66]⟩] 9)).alloc (.cells #[.string ⟨#[115]⟩] 9)).alloc (.cells #[.int .i64 1, .int .i64 3] 3)).alloc (.cells #[.int .i64 2] 3)).alloc
  (.cells #[.int .i64 3, .slice (some ⟨W.heap.size + 1 + 1, 0, none⟩) 2 2, .int .i64 3, .slice (some ⟨W.heap.size + 1 + 1 + 1, 0, none⟩) 1 1] 59)).alloc
  (.cells #[.slice (some ⟨W.heap.size, 0, none⟩) 2 2, .slice (some ⟨W.heap.size + 1, 0, none⟩) 1 1, .slice (some ⟨W.heap.size + 1 + 1 + 1 + 1, 0, none⟩) 2 2, .int .i64 3] 25)
def ah (W : World) : Sh := ⟨some ⟨W.heap.size, 0, none⟩, 2, some ⟨W.heap.size + 1, 0, none⟩, 1, some ⟨W.heap.size + 1 + 1 + 1 + 1, 0, none⟩, 2⟩
theorem zFq (W : World) : Below W.heap.size W (aw W) := Gr.step (Gr.step (Gr.step (Gr.step (Gr.step (boxed _ _) (boxed _ _)) (boxed _ _)) (boxed _ _)) (boxed _ _)) (boxed _ _)
theorem fitz (x : Int) (h : -1000 <= x) (k : x <= 1000) : Fits x := ⟨by omega, by omega⟩
theorem zMf (W : World) : GAt (ah W) GA (aw W) := by
 refine ⟨fun i hi => ?_, fun i hi => ?_, fun i hi => ?_, by simp [ah, GA], by simp [GA], by simp [GA], by simp [ah, GA], by simp [GA], ⟨?_, ?_, fitz _ (by decide) (by decide), ?_, ?_⟩⟩
 ·have h2 : i < 2 := hi
  refine ⟨W.heap.size, 0, rfl, ?_⟩
  have : i = 0 \/ i = 1 := by omega
  rcases this with rfl | rfl <;> exact zAF (zAF (zAF (zAF (zAF (zAB rfl rfl)))))
 ·refine ⟨W.heap.size + 1, 0, rfl, ?_⟩
  have h2 : i < 1 := hi
  obtain rfl : i = 0 := by omega
  exact zAF (zAF (zAF (zAF (zAB (by simp) rfl))))
 ·have h2 : i < 2 := hi
  have : i = 0 \/ i = 1 := by omega
  rcases this with rfl | rfl
  ·refine ⟨W.heap.size + 1 + 1 + 1 + 1, 0, some ⟨W.heap.size + 1 + 1, 0, none⟩, 2, rfl, zAF (zAB (by simp) rfl), zAF (zAB (by simp) rfl), fun j hj => ?_, by simp [GA], by simp [GA]⟩
   have h3 : j < 2 := hj
   refine ⟨W.heap.size + 1 + 1, 0, rfl, ?_⟩
   have : j = 0 \/ j = 1 := by omega
   rcases this with rfl | rfl <;> exact zAF (zAF (zAF (zAB (by simp) rfl)))
  ·refine ⟨W.heap.size + 1 + 1 + 1 + 1, 0, some ⟨W.heap.size + 1 + 1 + 1, 0, none⟩, 1, rfl, zAF (zAB (by simp) rfl), zAF (zAB (by simp) rfl), fun j hj => ?_, by simp [GA], by simp [GA]⟩
   have h3 : j < 1 := hj
   obtain rfl : j = 0 := by omega
   exact ⟨W.heap.size + 1 + 1 + 1, 0, rfl, zAF (zAF (zAB (by simp) rfl))⟩
 ·intro s hs
  simp only [GA, List.mem_cons, List.not_mem_nil, or_false] at hs
  rcases hs with rfl | rfl <;> simp [ByteArray.size]
 ·intro s hs
  simp only [GA, List.mem_cons, List.not_mem_nil, or_false] at hs
  subst hs
  simp [ByteArray.size]
 ·intro r hr
  simp only [GA, List.mem_cons, List.not_mem_nil, or_false] at hr
  rcases hr with rfl | rfl <;> exact fitz _ (by decide) (by decide)
 ·intro r hr x hx
  simp only [GA, List.mem_cons, List.not_mem_nil, or_false] at hr
  rcases hr with rfl | rfl
  ·simp only [List.mem_cons, List.not_mem_nil, or_false] at hx
   rcases hx with rfl | rfl <;> exact fitz _ (by decide) (by decide)
  ·simp only [List.mem_cons, List.not_mem_nil, or_false] at hx
   subst hx
   exact fitz _ (by decide) (by decide)
end Le
namespace Le
open Gr (Is step ivs zBT zAA)
theorem zMH {v w : List Int} {k : Nat} (hv : k < v.length) (hw : k < w.length) (e : v[k] ≠ w[k]) : v ≠ w := fun h => by
 subst h
 exact e rfl
theorem zFz (X Y : List Int) (a b : Option Addr) (c d : Nat) (w : World) (hX : Sep.Reads a (ivs X) w) (hY : Sep.Reads b (ivs Y) w) (hm : X.length <= 100000) (hm2 : Y.length <= 100000) :
  Calls Tryz.prog 16 #[.slice a X.length c, .slice b Y.length d] w (Is (.bool (decide (X = Y))) w) := by
 by_cases hl : X.length = Y.length
 ·have HX := zNR (fun w1 (bb : Below w.heap.size w w1) => Sep.Reads.below hX bb (Nat.le_refl _))
  have HY := zNR (fun w1 (bb : Below w.heap.size w w1) => Sep.Reads.below hY bb (Nat.le_refl _))
  have HL := zNR hl
  rw [← hl]
  clear hX hY hl hm2
  go_enter Tryz.func16, Tryz.ntmps16
  go_wp2
  go_loopw [5] (fun i wr => ∃ k : Nat, k <= X.length /\ i = .int .i64 k /\ zA8 X Y k /\ Below w.heap.size w wr) (fun i _ => X.length - (intOf i).toNat)
  case atStart => exact ⟨0, Nat.zero_le _, rfl, zEz _ _, .refl _ _⟩
  case round =>
   obtain ⟨k, hk, rfl, hS, hB⟩ := hrel
   have S := zNR hS
   have B := zNR hB
   clear hS hB
   by_cases hlt : k < X.length
   ·have hlt2 : k < Y.length := by rw [← HL.out]; exact hlt
    obtain ⟨b1, o1, e1, hc1⟩ := zBT (HX.out _ B.out) hlt
    obtain ⟨b2, o2, e2, hc2⟩ := zBT (HY.out _ B.out) hlt2
    have NS := zNR (fun he => zEy S.out hlt hlt2 he)
    have NE := zNR (fun he => zMH hlt hlt2 he)
    generalize X[k] = x at *
    generalize Y[k] = y at *
    subst e1 e2
    have i0 : (0 : Int) <= (k : Int) := by omega
    have i1 : (k : Int) < (X.length : Int) := by omega
    by_cases hxy : x = y
    ·have S2 := zNR (NS.out hxy)
     have hb : (x != y) = false := by simpa using hxy
     clear hxy NS NE hlt2
     go_wp2
     go_quiet (fail)
     go_wp2
     go_roundw
     case rel => exact ⟨k + 1, by omega, by go_num, S2.out, Gr.step B.out (zFt _ _)⟩
     case measure => simp [intOf]; omega
    ·have E := zNR (decide_eq_false (NE.out hxy))
     have hb : (x != y) = true := by simpa using hxy
     clear hxy NS NE hlt2
     go_wp2
     go_quiet (fail)
     go_wp2
     go_ret
     exact ⟨zAA E.out, Gr.step B.out (zFt _ _)⟩
   ·have E := zNR (decide_eq_true (zGS S.out hlt HL.out))
    go_wp2
    go_ret
    exact ⟨zAA E.out, B.out⟩
 ·have E := zNR (show decide (X = Y) = false from decide_eq_false fun e => hl (by rw [e]))
  have hb : ((X.length : Int) != (Y.length : Int)) = true := by simp; omega
  clear hX hY hl
  generalize decide (X = Y) = ans at *
  generalize X.length = n at *
  generalize Y.length = m at *
  go_enter Tryz.func16, Tryz.ntmps16
  go_wp2
  go_ret
  exact ⟨zAA E.out, .refl _ _⟩
