/- A part of the proof. -/
import Derived.Test.YtbajcecncgdpmaaGreatDoorPk04
set_option maxHeartbeats 2000000
set_option maxRecDepth 100000
set_option linter.unusedVariables false
namespace Go.Proofs.YtbajcecncgdpmaaGreatDoor
open Go.RowKit Go.Maps
namespace Gr
theorem zEo (w : World) : (Instr.buildSlice 37 0 #[]).run Tryz.prog w = .ok (.slice (some ⟨w.heap.size, 0, none⟩) 0 0) (w.alloc (.cells #[] 3)) := by kernel_rfl
theorem zK8 (l : List Int) : ∀ u ∈ ivs l, u.oneCell' = true := by
 intro u hu
 obtain ⟨s, _, rfl⟩ := List.mem_map.1 hu
 rfl
theorem zKP (a : Option Addr) (l : List Int) (c : Nat) (w : World) (h : Sep.Reads a (ivs l) w) (hl : l.length <= 17592186044416) :
  Calls Tryz.prog 89 #[.slice a l.length c] w (Listed l w) := by
 obtain ⟨i0, hi, hz0, hz1, hz2⟩ := info_parts zA5
 cases a with
 | none =>
  have h0 : l = [] := by
   rcases l with _ | ⟨x, l⟩
   ·rfl
   ·obtain ⟨_, _, e, _⟩ := h 0 (by simp [ivs])
    cases e
  subst h0
  have hn := Lib.run_eql_slice_nil (P := Tryz.prog)
  go_enter Tryz.func89, Tryz.ntmps89
  go_wp2
  go_ret
  exact ⟨Option.none, _, rfl, .nil _ _, (fun _ h => by cases h), .refl _ _⟩
 | some x =>
  have HB := zSt (fun v (w1 w2 : World) (h1 : w2.ownsRow w.heap.size 3 1 v (0 + l.length) ([] ++ ivs l)) (h2 : (w.alloc (.cells #[] 3)).grownBy w2 (some w.heap.size)) => show Listed l w (.returned v) w2 from by
   rw [Nat.zero_add, List.nil_append] at h1
   obtain ⟨a', c', rfl⟩ := Sep.zAZ h1
   exact ⟨a', c', rfl, .of_row h1, zDL h1 (Nat.le_refl _), ((Below.refl _ _).alloc (Nat.le_refl _) _).grown h2 (by simp) fun k hk => by injection hk with hk; omega⟩)
  have HO := zSt (World.ownsRow_made (base := w.heap.size) (e := 3) (size := 1) w #[] 0 (Nat.le_refl _) (by simp) (by simp))
  have HN := zSt (show ∀ (j : Nat) (u : Value), (ivs l)[j]? = some u -> (w.alloc (.cells #[] 3)).cell? (x.add j) = some u from fun j u hj => by
   obtain ⟨hj1, rfl⟩ := List.getElem?_eq_some_iff.1 hj
   obtain ⟨b, o, e, hc⟩ := h j hj1
   injection e with e
   subst e
   rw [WideShapes.add_plain]
   exact cell_later (boxed _ _) hc)
  have HL := zSt (zK8 l)
  have hll := zE2 l
  clear h
  have hn := Lib.run_eql_slice_nil (P := Tryz.prog)
  have hb := zEo
  go_enter Tryz.func89, Tryz.ntmps89
  go_wp2_with (at_builtin; refine wpList_append_own_at _ rfl _ _ 37 rfl w.heap.size 3 i0 (.int .i64 0) 1 8 Tryz.underlying37 hi hz0 hz1 hz2 rfl (by decide) _ _ _ rfl HO.out x l.length c (ivs l) rfl (by simp [ivs]) HN.out HL.out (by unfold maxLen; omega) (by omega) (by simp) ?_; intro v' w2 hown2 hg2 _ _; have HE := zSt (HB.out v' w w2 hown2 hg2); clear hown2 hg2)
  go_ret
  exact HE.out
def zMm (r : Int × List Int) (ok : Bool) (w : World) (e : Ending) (w' : World) : Prop :=
 ∃ a c, e = .returned (.tuple #[.agg #[.int .i64 r.1, .slice a r.2.length c], .bool ok]) /\ Sep.Reads a (ivs r.2) w' /\ Below w.heap.size w w'
theorem zBk {w : World} {q : Nat} {x : Int} (h : w.cell? ⟨q, 0, Option.none⟩ = some (iv x)) : Sep.Reads (some ⟨q, 0, Option.none⟩) (ivs [x]) w := fun i hi => by
 obtain rfl : i = 0 := by simp [ivs] at hi; omega
 exact ⟨q, 0, rfl, by simpa [ivs] using h⟩
theorem zC3 (h : Sh) (G : Gram) (i : Int) (w : World) (k : GAt h G w) :
  Calls Tryz.prog 53 #[gv h G, .int .i64 i] w (zMm (zAB G i) (zAN G i) w) := by
 have X := zSt (Bx.start h G w 25)
 have hc3 := k.r2
 by_cases h0 : i < 0 \/ (G.rules.length : Int) < i
 ·obtain ⟨e1, e2⟩ := zC4 h0
  rw [e1, e2]
  clear k e1 e2
  by_cases h1 : i < 0
  ·clear h0
   unfold gv
   go_enter Tryz.func53, Tryz.ntmps53
   go_wp2
   exact bodyPost_ret (v := .tuple #[.agg #[.int .i64 0, .slice Option.none 0 0], .bool false]) (by simp [results, Tryz.results53, go_sem]) rfl ⟨_, _, rfl, .nil _ _, (X.out.alloc _).below⟩
  ·have h2 : (G.rules.length : Int) < i := by omega
   clear h0
   unfold gv
   go_enter Tryz.func53, Tryz.ntmps53
   go_wp2
   exact bodyPost_ret (v := .tuple #[.agg #[.int .i64 0, .slice Option.none 0 0], .bool false]) (by simp [results, Tryz.results53, go_sem]) rfl ⟨_, _, rfl, .nil _ _, (X.out.alloc _).below⟩
 ·by_cases h1 : i = (G.rules.length : Int)
  ·subst h1
   obtain ⟨e1, e2⟩ := zAU G
   rw [e1, e2]
   clear k e1 e2 h0
   unfold gv
   go_enter Tryz.func53, Tryz.ntmps53
   go_wp2
   refine bodyPost_ret (v := .tuple #[.agg #[.int .i64 0, .slice (some ⟨w.heap.size + 1 + 1, 0, Option.none⟩) 1 1], .bool true]) (by simp [results, Tryz.results53, go_sem]) rfl ⟨_, _, rfl, zBk (zAA (by simp) rfl), ((X.out.alloc _).alloc _).below⟩
  ·obtain ⟨j, rfl⟩ : ∃ j : Nat, i = (j : Int) := ⟨i.toNat, by omega⟩
   have hj : j < G.rules.length := by omega
   obtain ⟨e1, e2⟩ := zAb hj
   rw [e1, e2]
   obtain ⟨a1, c1, a2, c2, a3, c3⟩ := h
   obtain ⟨b, o, ra, rc, e, g1, g2, g3, g4, g5⟩ := k.rules j hj
   dsimp only at e
   subst e
   generalize G.rules[j] = r at g1 g2 g3 g4 g5 ⊢
   have hblt : b < w.heap.size := World.block_lt_of_cell? w ⟨b, o + j * 2, Option.none⟩ g1
   have HR := zSt (show Sep.Reads ra (ivs r.2) w from g3)
   clear k e1 e2 h0 h1 g3
   unfold gv
   dsimp only
   go_enter Tryz.func53, Tryz.ntmps53
   go_wp2
   obtain ⟨wq, hwq⟩ : ∃ wq, ((w.alloc (.cells #[.slice a1 G.terms.length c1, .slice a2 G.nons.length c2, .slice (some ⟨b, o, Option.none⟩) G.rules.length c3, .int .i64 G.start] 25)).alloc (.cells #[.int .i64 0, .slice Option.none 0 0] 41)).alloc (.cells #[.int .i64 r.1, .slice ra r.2.length rc] 41) = wq := ⟨_, rfl⟩
   rw [hwq]
   have q0 : wq.cell? ⟨w.heap.size + 1 + 1, 0, Option.none⟩ = some (.int .i64 r.1) := by rw [← hwq]; exact zAA (by simp) rfl
   have q1 : wq.cell? ⟨w.heap.size + 1 + 1, 1, Option.none⟩ = some (.slice ra r.2.length rc) := by rw [← hwq]; exact zAA (by simp) rfl
   have q2 : wq.cell? ⟨w.heap.size + 1, 0, Option.none⟩ = some (.int .i64 0) := by rw [← hwq]; exact zAJ (zAA (by simp) rfl)
   have q3 : wq.cell? ⟨w.heap.size + 1, 1, Option.none⟩ = some (.slice Option.none 0 0) := by rw [← hwq]; exact zAJ (zAA (by simp) rfl)
   have q4 : wq.frozen? ⟨w.heap.size + 1, 0, Option.none⟩ = false := by rw [← hwq]; exact zA4 (i := 0) (boxed _ _) (zBo (by simp)) (zAA (by simp) rfl)
   have q5 : wq.frozen? ⟨w.heap.size + 1, 1, Option.none⟩ = false := by rw [← hwq]; exact zA4 (i := 0) (boxed _ _) (zBo (by simp)) (zAA (by simp) rfl)
   have QB := zSt (show Below w.heap.size w wq by rw [← hwq]; exact ((X.out.alloc _).alloc _).below)
   have QC := zSt (fun w1 (k : Below wq.heap.size wq w1) => zKP ra r.2 rc w1 ((HR.out.below QB.out (Nat.le_refl _)).below k (Nat.le_refl _)) (by omega))
   have HQ := zSt (show ∀ w', Below wq.heap.size wq w' -> w'.cell? ⟨w.heap.size + 1 + 1, 0, Option.none⟩ = some (.int .i64 r.1) /\ w'.cell? ⟨w.heap.size + 1 + 1, 1, Option.none⟩ = some (.slice ra r.2.length rc) /\ Below w.heap.size w w'
    from fun w' hb => ⟨cell_later hb q0, cell_later hb q1, QB.out.trans (hb.mono QB.out.size)⟩)
   have HT := zSt (show ∀ w' u v, Below wq.heap.size wq w' -> ((w'.setCell ⟨w.heap.size + 1, 0, Option.none⟩ u).setCell ⟨w.heap.size + 1, 1, Option.none⟩ v).cell? ⟨w.heap.size + 1 + 1, 0, Option.none⟩ = some (.int .i64 r.1) /\ ((w'.setCell ⟨w.heap.size + 1, 0, Option.none⟩ u).setCell ⟨w.heap.size + 1, 1, Option.none⟩ v).cell? ⟨w.heap.size + 1 + 1, 1, Option.none⟩ = some (.slice ra r.2.length rc) /\ Below w.heap.size w ((w'.setCell ⟨w.heap.size + 1, 0, Option.none⟩ u).setCell ⟨w.heap.size + 1, 1, Option.none⟩ v)
    from fun w' u v hb => ⟨by rw [World.cell?_setCell_other _ _ _ _ (by intro e; simp at e), World.cell?_setCell_other _ _ _ _ (by intro e; simp at e)]; exact cell_later hb q0, by rw [World.cell?_setCell_other _ _ _ _ (by intro e; simp at e), World.cell?_setCell_other _ _ _ _ (by intro e; simp at e)]; exact cell_later hb q1,
     ((QB.out.trans (hb.mono QB.out.size)).setCell (by simp) _).setCell (by simp) _⟩)
   have hbd := drawn wq
   clear hwq X HR
   go_region_held3 (fun w' => w'.cell? ⟨w.heap.size + 1 + 1, 0, Option.none⟩ = some (.int .i64 r.1) /\ w'.cell? ⟨w.heap.size + 1 + 1, 1, Option.none⟩ = some (.slice ra r.2.length rc) /\ Below w.heap.size w w')
    (first | exact HQ.out _ (by assumption) | exact HT.out _ _ _ (by assumption))
    (first
     | (go_at_call 89; refine (QC.out _ hbd).mono ?_; rintro e wn ⟨a', c', rfl, hr, hnew, hb⟩; have HR3 := zSt hr; have HN := zSt hnew; have kB : Below wq.heap.size wq wn := step hbd hb; have z2 := cell_later kB q2; have z3 := cell_later kB q3; have z4 := zA4 kB q4 q2; have z5 := zA4 kB q5 q2; clear hr hnew hb)
     | fail)
   go_wp2
   have hqs := World.block_lt_of_cell? wq ⟨w.heap.size + 1, 0, Option.none⟩ q2
   have f0 : ((wn.setCell ⟨w.heap.size + 1, 0, Option.none⟩ (.int .i64 r.1)).setCell ⟨w.heap.size + 1, 1, Option.none⟩ (.slice a' r.2.length c')).cell? ⟨w.heap.size + 1, 0, Option.none⟩ = some (.int .i64 r.1) := by
    rw [World.cell?_setCell_other _ _ _ _ (by intro e; simp at e)]
    exact World.cell?_setCell_same _ _ _ z2
   have f1 : ((wn.setCell ⟨w.heap.size + 1, 0, Option.none⟩ (.int .i64 r.1)).setCell ⟨w.heap.size + 1, 1, Option.none⟩ (.slice a' r.2.length c')).cell? ⟨w.heap.size + 1, 1, Option.none⟩ = some (.slice a' r.2.length c') := by
    have y3 : (wn.setCell ⟨w.heap.size + 1, 0, Option.none⟩ (.int .i64 r.1)).cell? ⟨w.heap.size + 1, 1, Option.none⟩ = some (.slice Option.none 0 0) := by
     rw [World.cell?_setCell_other _ _ _ _ (by intro e; simp at e)]
     exact z3
    exact World.cell?_setCell_same _ _ _ y3
   have HF := zSt (show Sep.Reads a' (ivs r.2) ((wn.setCell ⟨w.heap.size + 1, 0, Option.none⟩ (.int .i64 r.1)).setCell ⟨w.heap.size + 1, 1, Option.none⟩ (.slice a' r.2.length c')) from HR3.out.keep fun b' o' e' => by
    have hn := HN.out _ e'
    have hn' : wq.heap.size <= b' := hn
    have hqs' : w.heap.size + 1 < wq.heap.size := hqs
    rw [Below.heap_setCell _ _ _ _ (by simp; omega), Below.heap_setCell _ _ _ _ (by simp; omega)])
   exact bodyPost_ret (v := .tuple #[.agg #[.int .i64 r.1, .slice a' r.2.length c'], .bool true]) (by simp [results, Tryz.results53, go_sem, f0, f1]) rfl ⟨_, _, rfl, HF.out, (HT.out _ _ _ kB).2.2⟩
theorem zC2 (h : Sh) (G : Gram) (i : Int) (w : World) (k : GAt h G w) :
  Calls Tryz.prog 12 #[gv h G, .int .i64 i] w (zMm (zAB G i) (zAN G i) w) := by
 have X := zSt (Bx.start h G w 25)
 have hc3 := k.r2
 by_cases h0 : i < 0 \/ (G.rules.length : Int) < i
 ·obtain ⟨e1, e2⟩ := zC4 h0
  rw [e1, e2]
  clear k e1 e2
  by_cases h1 : i < 0
  ·clear h0
   unfold gv
   go_enter Tryz.func12, Tryz.ntmps12
   go_wp2
   exact bodyPost_ret (v := .tuple #[.agg #[.int .i64 0, .slice Option.none 0 0], .bool false]) (by simp [results, Tryz.results12, go_sem]) rfl ⟨_, _, rfl, .nil _ _, (X.out.alloc _).below⟩
  ·have h2 : (G.rules.length : Int) < i := by omega
   clear h0
   unfold gv
   go_enter Tryz.func12, Tryz.ntmps12
   go_wp2
   exact bodyPost_ret (v := .tuple #[.agg #[.int .i64 0, .slice Option.none 0 0], .bool false]) (by simp [results, Tryz.results12, go_sem]) rfl ⟨_, _, rfl, .nil _ _, (X.out.alloc _).below⟩
 ·by_cases h1 : i = (G.rules.length : Int)
  ·subst h1
   obtain ⟨e1, e2⟩ := zAU G
   rw [e1, e2]
   clear k e1 e2 h0
   unfold gv
   go_enter Tryz.func12, Tryz.ntmps12
   go_wp2
   refine bodyPost_ret (v := .tuple #[.agg #[.int .i64 0, .slice (some ⟨w.heap.size + 1 + 1, 0, Option.none⟩) 1 1], .bool true]) (by simp [results, Tryz.results12, go_sem]) rfl ⟨_, _, rfl, zBk (zAA (by simp) rfl), ((X.out.alloc _).alloc _).below⟩
  ·obtain ⟨j, rfl⟩ : ∃ j : Nat, i = (j : Int) := ⟨i.toNat, by omega⟩
   have hj : j < G.rules.length := by omega
   obtain ⟨e1, e2⟩ := zAb hj
   rw [e1, e2]
   obtain ⟨a1, c1, a2, c2, a3, c3⟩ := h
   obtain ⟨b, o, ra, rc, e, g1, g2, g3, g4, g5⟩ := k.rules j hj
   dsimp only at e
   subst e
   generalize G.rules[j] = r at g1 g2 g3 g4 g5 ⊢
   have hblt : b < w.heap.size := World.block_lt_of_cell? w ⟨b, o + j * 2, Option.none⟩ g1
   have HR := zSt (show Sep.Reads ra (ivs r.2) w from g3)
   clear k e1 e2 h0 h1 g3
   unfold gv
   dsimp only
   go_enter Tryz.func12, Tryz.ntmps12
   go_wp2
   exact bodyPost_ret (v := .tuple #[.agg #[.int .i64 r.1, .slice ra r.2.length rc], .bool true]) (by simp [results, Tryz.results12, go_sem]) rfl ⟨_, _, rfl, HR.out.below (X.out.alloc _).below (Nat.le_refl _), (X.out.alloc _).below⟩
def fidx (p : Int × List Int -> Bool) (R : List (Int × List Int)) : Int := match R.findIdx? p with | some i => (i : Int) | Option.none => -1
def zCn (p : Int × List Int -> Bool) (R : List (Int × List Int)) (k : Nat) : Prop := ∀ j (h : j < R.length), j < k -> p R[j] = false
theorem zCj (p : Int × List Int -> Bool) (R : List (Int × List Int)) : zCn p R 0 := fun _ _ h => absurd h (by omega)
theorem zCi {p : Int × List Int -> Bool} {R : List (Int × List Int)} {k : Nat} (h : zCn p R k) (hk : k < R.length) (e : p R[k] = false) : zCn p R (k + 1) := fun j hj hl => by
 by_cases he : j = k
 ·subst he
  exact e
 ·exact h j hj (by omega)
theorem zIA {p : Int × List Int -> Bool} {R : List (Int × List Int)} {k : Nat} (h : zCn p R k) (hk : k < R.length) (e : p R[k] = true) : fidx p R = (k : Int) := by
 have : R.findIdx? p = some k := by
  rw [List.findIdx?_eq_some_iff_getElem]
  exact ⟨hk, e, fun j hj => by simpa using h j (by omega) hj⟩
 simp [fidx, this]
theorem zFP {p : Int × List Int -> Bool} {R : List (Int × List Int)} {k : Nat} (h : zCn p R k) (hk : ¬ k < R.length) : fidx p R = -1 := by
 have : R.findIdx? p = Option.none := by
  rw [List.findIdx?_eq_none_iff]
  intro x hx
  obtain ⟨j, hj, rfl⟩ := List.mem_iff_getElem.1 hx
  exact h j hj (by omega)
 simp [fidx, this]
theorem zFO (p : Int × List Int -> Bool) (R : List (Int × List Int)) : decide (0 <= fidx p R) = R.any p := by
 unfold fidx
 cases h : R.findIdx? p with
 | none =>
  rw [List.findIdx?_eq_none_iff] at h
  simp [List.any_eq_false.2 (fun x hx => by simpa using h x hx)]
 | some i =>
  rw [List.findIdx?_eq_some_iff_getElem] at h
  obtain ⟨hi, e, _⟩ := h
  rw [List.any_eq_true.2 ⟨_, List.getElem_mem hi, e⟩]
  simp
def bigB (r : Int × List Int) : Bool := decide (8 < r.2.length)
theorem zPT (r : Int × List Int) (a : Option Addr) (c : Nat) (w : World) (hl : r.2.length <= 17592186044416) :
  Calls Tryz.prog 106 #[.agg #[.int .i64 r.1, .slice a r.2.length c]] w (Is (.bool (bigB r)) w) := by
 by_cases h : 8 < r.2.length
 ·have E := zSt (show bigB r = true by simp [bigB, h])
  go_enter Tryz.func106, Tryz.ntmps106
  go_wp2
  go_ret
  refine ⟨zAD ?_, boxed _ _⟩
  rw [E.out]
  simp
  omega
 ·have E := zSt (show bigB r = false by simp [bigB, h])
  go_enter Tryz.func106, Tryz.ntmps106
  go_wp2
  go_ret
  refine ⟨zAD ?_, boxed _ _⟩
  rw [E.out]
  simp
  omega
def zDC (q : Nat) (r : Int × List Int) (w : World) : Prop := ∃ a c, w.cell? ⟨q, 0, none⟩ = some (.int .i64 r.1) /\ w.cell? ⟨q, 1, none⟩ = some (.slice a r.2.length c) /\ Sep.Reads a (ivs r.2) w /\ r.2.length <= 17592186044416
theorem zDC.later {q : Nat} {r : Int × List Int} {w w' : World} (h : zDC q r w) (hb : Below w.heap.size w w') : zDC q r w' := by
 obtain ⟨a, c, h1, h2, h3, h4⟩ := h
 exact ⟨a, c, cell_later hb h1, cell_later hb h2, h3.below hb (Nat.le_refl _), h4⟩
theorem zQM (q : Nat) (r o : Int × List Int) (a : Option Addr) (c : Nat) (w : World) (hq : zDC q r w) (ha : Sep.Reads a (ivs o.2) w) (hl : o.2.length <= 17592186044416) :
  Calls Tryz.prog 111 #[.agg #[.int .i64 o.1, .slice a o.2.length c], .pointer (some ⟨q, 0, none⟩)] w (Is (.bool (zBB o r)) w) := by
 obtain ⟨a', c', h1, h2, h3, h4⟩ := hq
 have H := zSt (fun w1 (k : Below w.heap.size w w1) => zME o r a a' c c' w1 (ha.below k (Nat.le_refl _)) (h3.below k (Nat.le_refl _)) hl h4)
 have hlt : q < w.heap.size := World.block_lt_of_cell? w ⟨q, 0, none⟩ h1
 clear ha h3
 go_enter Tryz.func111, Tryz.ntmps111
 go_wp2_with (go_at_call 112; refine (H.out _ (boxed _ _)).mono ?_; rintro e w1 ⟨rfl, hb⟩; have HB := zSt (step (boxed _ _) hb); clear hb)
 go_ret
 exact ⟨rfl, HB.out⟩
theorem zKy (R : List (Int × List Int)) (a : Option Addr) (c : Nat) (w : World) (ha : zA0 a R w) (hl : R.length <= 4398046511104) :
  Calls Tryz.prog 142 #[.slice a R.length c, .func (.func 106) #[] #[]] w (Is (.int .i64 (fidx bigB R)) w) := by
 have HA := zSt (fun w1 (k : Below w.heap.size w w1) => ha.below k (Nat.le_refl _))
 clear ha
 go_enter Tryz.func142, Tryz.ntmps142
 go_wp2
 go_loopw [8] (fun i wr => ∃ k : Nat, k <= R.length /\ i = .int .i64 k /\ zCn bigB R k /\ Below w.heap.size w wr) (fun i _ => R.length - (intOf i).toNat)
 case atStart => exact ⟨0, Nat.zero_le _, rfl, zCj _ _, .refl _ _⟩
 case round =>
  obtain ⟨k, hk, rfl, hA, hW⟩ := hrel
  have A := zSt hA
  have HW := zSt hW
  clear hA
  by_cases hlt : k < R.length
  ·obtain ⟨b1, o1, ra, rc, rfl, h1, h2, h3, h4, h5⟩ := HA.out _ hW k hlt
   have AE := zSt (fun he => zCi A.out hlt he)
   have AF := zSt (fun he => zIA A.out hlt he)
   generalize R[k] = x at h1 h2 h3 h4 h5 AE AF
   have HC := zSt (fun w1 (k : Below wr.heap.size wr w1) => zPT x ra rc w1 (by omega))
   clear h3 h4 h5 hW
   cases hs : bigB x with
   | false =>
    rw [hs] at HC
    have A2 := zSt (AE.out hs)
    clear hs
    go_wp2_with (go_at_call 106; refine (HC.out _ (.refl _ _)).mono ?_; rintro e w1 ⟨rfl, hb⟩; have HB := zSt (step HW.out hb); clear hb)
    go_roundw
    case rel => exact ⟨k + 1, by omega, by go_num, A2.out, HB.out⟩
    case measure => simp [intOf]; omega
   | true =>
    rw [hs] at HC
    have F := zSt (AF.out hs)
    clear hs
    go_wp2_with (go_at_call 106; refine (HC.out _ (.refl _ _)).mono ?_; rintro e w1 ⟨rfl, hb⟩; have HB := zSt (step HW.out hb); clear hb)
    go_ret
    exact ⟨zAc F.out, HB.out⟩
  ·have F := zSt (zFP A.out hlt)
   clear hW
   go_wp2
   go_ret
   exact ⟨zAc F.out, HW.out⟩
theorem zGK (R : List (Int × List Int)) (a : Option Addr) (c : Nat) (w : World) (ha : zA0 a R w) (hl : R.length <= 4398046511104) :
  Calls Tryz.prog 105 #[.slice a R.length c, .func (.func 106) #[] #[]] w (Is (.bool (R.any bigB)) w) := by
 have H := zSt (zKy R a c w ha hl)
 have E := zSt (zFO bigB R)
 clear ha
 generalize fidx bigB R = n at H E
 go_enter Tryz.func105, Tryz.ntmps105
 go_wp2_with (go_at_call 142; refine H.out.mono ?_; rintro e w1 ⟨rfl, hb⟩; have HB := zSt hb; clear hb)
 go_ret
 exact ⟨zAD E.out.symm, HB.out⟩
theorem zKz (q : Nat) (r : Int × List Int) (R : List (Int × List Int)) (a : Option Addr) (c : Nat) (w : World) (ha : zA0 a R w) (hl : R.length <= 4398046511104) (hq : zDC q r w) :
  Calls Tryz.prog 142 #[.slice a R.length c, .func (.func 111) #[] #[.pointer (some ⟨q, 0, none⟩)]] w (Is (.int .i64 (fidx (fun o => zBB o r) R)) w) := by
 have HA := zSt (fun w1 (k : Below w.heap.size w w1) => ha.below k (Nat.le_refl _))
 have HQ := zSt (fun w1 (k : Below w.heap.size w w1) => hq.later k)
 clear hq
 clear ha
 go_enter Tryz.func142, Tryz.ntmps142
 go_wp2
 go_loopw [8] (fun i wr => ∃ k : Nat, k <= R.length /\ i = .int .i64 k /\ zCn (fun o => zBB o r) R k /\ Below w.heap.size w wr) (fun i _ => R.length - (intOf i).toNat)
 case atStart => exact ⟨0, Nat.zero_le _, rfl, zCj _ _, .refl _ _⟩
 case round =>
  obtain ⟨k, hk, rfl, hA, hW⟩ := hrel
  have A := zSt hA
  have HW := zSt hW
  clear hA
  by_cases hlt : k < R.length
  ·obtain ⟨b1, o1, ra, rc, rfl, h1, h2, h3, h4, h5⟩ := HA.out _ hW k hlt
   have AE := zSt (fun he => zCi A.out hlt he)
   have AF := zSt (fun he => zIA A.out hlt he)
   generalize R[k] = x at h1 h2 h3 h4 h5 AE AF
   have HC := zSt (fun w1 (k : Below wr.heap.size wr w1) => zQM q r x ra rc w1 (HQ.out w1 (step hW k)) (Sep.Reads.below h3 k (Nat.le_refl _)) (by omega))
   clear h3 h4 h5 hW
   cases hs : zBB x r with
   | false =>
    rw [hs] at HC
    have A2 := zSt (AE.out hs)
    clear hs
    go_wp2_with (go_at_call 111; refine (HC.out _ (.refl _ _)).mono ?_; rintro e w1 ⟨rfl, hb⟩; have HB := zSt (step HW.out hb); clear hb)
    go_roundw
    case rel => exact ⟨k + 1, by omega, by go_num, A2.out, HB.out⟩
    case measure => simp [intOf]; omega
   | true =>
    rw [hs] at HC
    have F := zSt (AF.out hs)
    clear hs
    go_wp2_with (go_at_call 111; refine (HC.out _ (.refl _ _)).mono ?_; rintro e w1 ⟨rfl, hb⟩; have HB := zSt (step HW.out hb); clear hb)
    go_ret
    exact ⟨zAc F.out, HB.out⟩
  ·have F := zSt (zFP A.out hlt)
   clear hW
   go_wp2
   go_ret
   exact ⟨zAc F.out, HW.out⟩
theorem zGL (q : Nat) (r : Int × List Int) (R : List (Int × List Int)) (a : Option Addr) (c : Nat) (w : World) (ha : zA0 a R w) (hl : R.length <= 4398046511104) (hq : zDC q r w) :
  Calls Tryz.prog 105 #[.slice a R.length c, .func (.func 111) #[] #[.pointer (some ⟨q, 0, none⟩)]] w (Is (.bool (R.any (fun o => zBB o r))) w) := by
 have H := zSt (zKz q r R a c w ha hl hq)
 have E := zSt (zFO (fun o => zBB o r) R)
 clear ha
 generalize fidx (fun o => zBB o r) R = n at H E
 go_enter Tryz.func105, Tryz.ntmps105
 go_wp2_with (go_at_call 142; refine H.out.mono ?_; rintro e w1 ⟨rfl, hb⟩; have HB := zSt hb; clear hb)
 go_ret
 exact ⟨zAD E.out.symm, HB.out⟩
theorem zNl (h : Sh) (G : Gram) (w : World) (k : GAt h G w) :
  Calls Tryz.prog 71 #[gv h G] w (Is (.bool (zBA G)) w) := by
 have t := k.t2
 have n := k.n2
 have r := k.r2
 have X := zSt (Bx.start h G w 25)
 have C := zSt (fun w1 (b : Below w.heap.size w w1) => zGK G.rules h.a3 h.c3 w1 (k.went b).rules r)
 clear k
 have E := zSt (show zBA G = (decide (120 < G.terms.length) || decide (120 < G.nons.length) || decide (300 < G.rules.length) || G.rules.any bigB) from rfl)
 unfold gv
 generalize G.rules.any bigB = b at *
 by_cases h1 : 120 < G.terms.length
 ·rw [decide_eq_true h1] at E
  simp only [Bool.true_or] at E
  go_enter Tryz.func71, Tryz.ntmps71
  go_wp2
  go_ret
  exact ⟨zAD E.out, X.out.below⟩
 ·rw [decide_eq_false h1, Bool.false_or] at E
  by_cases h2 : 120 < G.nons.length
  ·rw [decide_eq_true h2] at E
   simp only [Bool.true_or] at E
   go_enter Tryz.func71, Tryz.ntmps71
   go_wp2
   go_ret
   exact ⟨zAD E.out, X.out.below⟩
  ·rw [decide_eq_false h2, Bool.false_or] at E
   by_cases h3 : 300 < G.rules.length
   ·rw [decide_eq_true h3] at E
    simp only [Bool.true_or] at E
    go_enter Tryz.func71, Tryz.ntmps71
    go_wp2
    go_ret
    exact ⟨zAD E.out, X.out.below⟩
   ·rw [decide_eq_false h3, Bool.false_or] at E
    go_enter Tryz.func71, Tryz.ntmps71
    go_wp2_with (go_at_call 105; refine (C.out _ X.out.below).mono ?_; rintro e w1 ⟨rfl, hb⟩; have X := zSt (X.out.went hb); clear hb)
    go_ret
    exact ⟨zAD E.out, X.out.below⟩
theorem zET {R : List (Int × List Int)} {p : Int × List Int -> Bool} {k : Nat} (h : zCn p R k) (hk : ¬ k < R.length) : R.any p = false := by
 rw [← zFO, zFP h hk]
 rfl
theorem zG3 {R : List (Int × List Int)} {p : Int × List Int -> Bool} {k : Nat} (hk : k < R.length) (e : p R[k] = true) : R.any p = true := List.any_eq_true.2 ⟨_, List.getElem_mem hk, e⟩
theorem zL7 (h : Sh) (G : Gram) (w : World) (k : GAt h G w) :
  Calls Tryz.prog 65 #[gv h G] w (Is (.bool (zBA G)) w) := by
 have t := k.t2
 have n := k.n2
 have r := k.r2
 obtain ⟨a1, c1, a2, c2, a3, c3⟩ := h
 have X := zSt (Bx.start ⟨a1, c1, a2, c2, a3, c3⟩ G w 25)
 have K := zSt k.rules
 have HB := zSt (boxed w (.cells #[.slice a1 G.terms.length c1, .slice a2 G.nons.length c2, .slice a3 G.rules.length c3, .int .i64 G.start] 25))
 clear k
 have E := zSt (show zBA G = (decide (120 < G.terms.length) || decide (120 < G.nons.length) || decide (300 < G.rules.length) || G.rules.any bigB) from rfl)
 unfold gv
 dsimp only
 go_enter Tryz.func65, Tryz.ntmps65
 go_wp2
 go_loop [3] (fun i => ∃ k : Nat, k <= G.rules.length /\ i = .int .i64 k /\ zCn bigB G.rules k) (fun i => G.rules.length - (intOf i).toNat)
 case atStart => exact ⟨0, Nat.zero_le _, rfl, zCj _ _⟩
 case round =>
  obtain ⟨k, hk, rfl, hA⟩ := hrel
  have A := zSt hA
  clear hA
  by_cases hlt : k < G.rules.length
  ·obtain ⟨b1, o1, ra, rc, e, h1, h2, h3, h4, h5⟩ := K.out k hlt
   try dsimp only at e
   subst e
   have hb := World.block_lt_of_cell? w ⟨b1, o1 + k * 2, none⟩ h1
   have AE := zSt (fun he => zCi A.out hlt he)
   have AF := zSt (fun he => zG3 (p := bigB) hlt he)
   generalize G.rules[k] = x at h1 h2 h3 h4 h5 AE AF
   clear h3
   by_cases hs : 8 < x.2.length
   ·have F := zSt (AF.out (by simpa [bigB] using hs))
    go_wp2
    go_ret
    exact ⟨zAD (by rw [E.out, F.out, Bool.or_true]), X.out.below⟩
   ·have A2 := zSt (AE.out (by simpa [bigB] using hs))
    go_wp2
    go_round
    case rel => exact ⟨k + 1, by omega, by go_num, A2.out⟩
    case measure => simp [intOf]; omega
  ·have F := zSt (zET A.out hlt)
   rw [F.out, Bool.or_false] at E
   by_cases h1 : 120 < G.terms.length
   ·rw [decide_eq_true h1] at E
    simp only [Bool.true_or] at E
    go_wp2
    go_ret
    exact ⟨zAD E.out, X.out.below⟩
   ·rw [decide_eq_false h1, Bool.false_or] at E
    by_cases h2 : 120 < G.nons.length
    ·rw [decide_eq_true h2] at E
     simp only [Bool.true_or] at E
     go_wp2
     go_ret
     exact ⟨zAD E.out, X.out.below⟩
    ·rw [decide_eq_false h2, Bool.false_or] at E
     by_cases h3 : 300 < G.rules.length
     ·rw [decide_eq_true h3] at E
      go_wp2
      go_ret
      refine ⟨zAD ?_, X.out.below⟩
      rw [E.out]
      simp
      omega
     ·rw [decide_eq_false h3] at E
      go_wp2
      go_ret
      refine ⟨zAD ?_, X.out.below⟩
      rw [E.out]
      simp
      omega
