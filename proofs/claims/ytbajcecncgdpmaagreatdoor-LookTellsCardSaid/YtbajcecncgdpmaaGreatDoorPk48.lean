/- A part of the proof. -/
import Derived.Test.YtbajcecncgdpmaaGreatDoorPk47
set_option maxHeartbeats 8000000
set_option maxRecDepth 100000
set_option linter.unusedVariables false
namespace Go.Proofs.YtbajcecncgdpmaaGreatDoor
namespace Lk
open Go.RowKit Go.Maps
open Gr (Gram cell_later)
open Im
open Au
def EndR (a : Option Addr) (Y : List (Nat × List Nat)) (w : World) : Prop :=
 ∀ k (h : k < Y.length), ∃ b a3 c3, a = some ⟨b, 0, none⟩ /\ w.cell? ⟨b, k * 2, none⟩ = some (.int .i64 (Y[k].1 : Int)) /\ w.cell? ⟨b, k * 2 + 1, none⟩ = some (.slice a3 Y[k].2.length c3) /\ Sep.Reads a3 (nivs Y[k].2) w
def LkR (a : Option Addr) (Ys : List (List (Nat × List Nat))) (w : World) : Prop :=
 ∀ i (h : i < Ys.length), ∃ b a2 c2, a = some ⟨b, 0, none⟩ /\ w.cell? ⟨b, i, none⟩ = some (.slice a2 Ys[i].length c2) /\ EndR a2 Ys[i] w
theorem EndR.went {a : Option Addr} {Y : List (Nat × List Nat)} {w w' : World} (h : EndR a Y w) (hb : Below w.heap.size w w') : EndR a Y w' := fun k hk => by
 obtain ⟨b, a3, c3, e, h1, h2, h3⟩ := h k hk
 exact ⟨b, a3, c3, e, cell_later hb h1, cell_later hb h2, h3.below hb (Nat.le_refl _)⟩
theorem LkR.went {a : Option Addr} {Ys : List (List (Nat × List Nat))} {w w' : World} (h : LkR a Ys w) (hb : Below w.heap.size w w') : LkR a Ys w' := fun i hi => by
 obtain ⟨b, a2, c2, e, h1, h2⟩ := h i hi
 exact ⟨b, a2, c2, e, cell_later hb h1, h2.went hb⟩
theorem zJM {w : World} {base n size : Nat} {e : TypeId} {a : Option Addr} {c : Nat} {xs : List Value} (h : w.ownsRow base e size (.slice a n c) n xs) (hn : 0 < n) : ∃ b, a = some ⟨b, 0, none⟩ := by
 rcases h.2 with ⟨_, h0⟩ | ⟨g, cap, cur, e1, _⟩
 ·omega
 ·simp only [Value.slice.injEq] at e1
  exact ⟨g, e1.1⟩
theorem EndV.reads {base : Nat} {Y : List (Nat × List Nat)} {a : Option Addr} {n c : Nat} {w : World} (h : EndV base Y (.slice a n c) w) : n = Y.length /\ EndR a Y w := by
 obtain ⟨X, h1, h2, h3⟩ := h
 have hl := zLC h2
 have hn : n = X.length := by
  obtain ⟨a', c', e⟩ := Rw.zAH h1
  simp only [Value.slice.injEq] at e
  exact e.2.1
 subst hn
 refine ⟨hl, fun k hk => ?_⟩
 have hk' : k < X.length := by omega
 obtain ⟨b, rfl⟩ := zJM h1 (by omega)
 have rd := World.ownsRow.cells h1 (g := b) rfl
 have t0 := rd (k * 2 + 0) _ (by rw [Rw.zBy lc zCK X k hk' 0 (by omega)]; rfl)
 have t1 := rd (k * 2 + 1) _ (by rw [Rw.zBy lc zCK X k hk' 1 (by omega)]; rfl)
 rw [WideShapes.add_plain] at t0 t1
 have e1 : X[k].1 = (Y[k].1 : Int) := by
  have h4 : (X.map (·.1))[k]? = (Y.map fun y => (y.1 : Int))[k]? := by rw [h2]
  rw [List.getElem?_map, List.getElem?_map, List.getElem?_eq_getElem hk', List.getElem?_eq_getElem hk] at h4
  injection h4
 have h5 := h3 k hk' hk
 have e2 : X[k].2.2.1 = Y[k].2.length := by
  obtain ⟨a', c', e⟩ := Rw.zAH h5
  unfold lks at e
  simp only [Value.slice.injEq] at e
  exact e.2.1
 refine ⟨b, X[k].2.1, X[k].2.2.2, rfl, by rw [← e1]; simpa using t0, by rw [← e2]; simpa [lks] using t1, ?_⟩
 unfold zMs lks at h5
 rw [e2] at h5
 exact Sep.Reads.of_row h5
theorem AllV.reads {base : Nat} {Ys : List (List (Nat × List Nat))} {a : Option Addr} {c : Nat} {w : World} (h : AllV base Ys (.slice a Ys.length c) w) : LkR a Ys w := fun i hi => by
 obtain ⟨V, h1, h2⟩ := h
 obtain ⟨b, rfl⟩ := zJM h1 (by omega)
 have t0 := World.ownsRow.cells h1 (g := b) rfl i (V i) (by rw [List.getElem?_map, List.getElem?_range hi]; rfl)
 rw [WideShapes.add_plain] at t0
 have h3 := h2 i hi
 obtain ⟨X, x1, _⟩ := h3
 obtain ⟨a2, c2, e⟩ := Rw.zAH x1
 have h3 := h2 i hi
 rw [e] at h3 t0
 obtain ⟨e2, h4⟩ := h3.reads
 rw [e2] at t0
 exact ⟨b, a2, c2, rfl, by simpa using t0, h4⟩
def zIg (G : Gram) (w : World) (e : Ending) (w' : World) : Prop :=
 ∃ (er : Int) (Ys : List (List (Nat × List Nat))) (a : Option Addr) (c : Nat), e = .returned (.tuple #[.slice a Ys.length c, .int .i64 er]) /\ LookIs G er Ys /\ LkR a Ys w' /\ Below w.heap.size w w'
end Lk
namespace Lk
open Gr (Gram ofN)
open Im
open Au
theorem zFk {q r : Whole} (hq : q.2.length = q.1.length) (hr : r.2.length = r.1.length) (h : states q = states r) : q = r := by
 have h1 : q.1 = r.1 := by
  have := congrArg (List.map Prod.fst) h
  unfold states at this
  rwa [List.map_fst_zip (by omega), List.map_fst_zip (by omega)] at this
 have h2 : q.2 = r.2 := by
  have := congrArg (List.map Prod.snd) h
  unfold states at this
  rwa [List.map_snd_zip (by omega), List.map_snd_zip (by omega)] at this
 exact Prod.ext h1 h2
theorem LookIs.uniq {G : Gram} {e f : Int} {X Y : List (List (Nat × List Nat))} (h : LookIs G e X) (k : LookIs G f Y) : e = f /\ X = Y := by
 cases h with
 | bad h1 h2 =>
  cases k with
  | bad k1 k2 => exact ⟨(h1.uniq k1).1, rfl⟩
  | all k1 k2 k3 k4 => exact absurd (h1.uniq k4).1 h2
 | all h1 h2 h3 h4 =>
  cases k with
  | bad k1 k2 => exact absurd (h4.uniq k1).1.symm k2
  | all k1 k2 k3 k4 =>
   rw [zFk h2.all k2.all (h4.uniq k4).2]
   exact ⟨rfl, rfl⟩
def qB : Whole := ([k0, k1, k2, k3, k4], [t0, t1, [], [], []])
theorem zRD {q : Whole} (h : Built GB 0 (states q)) (D : Done GB q) : q = qB := zFk D.all rfl ((h.uniq zME).2.trans rfl)
theorem zR5 {x : Itm} (hx : zAI GB x = true) (hb : behB GB x = true) (ho : ofN GB (behV GB x) ≠ []) : zEh GB x = [] := by
 have hm := zCD hx
 have key : ∀ x ∈ allI GB, behB GB x = true -> ofN GB (behV GB x) ≠ [] -> zEh GB x = [] := by decide +kernel
 exact key x hm hb ho
theorem zLe (D : Done GB qB) {i : Nat} {x : Itm} {t : Int} (h : La GB qB i x t) : t = 0 := by
 induction h with
 | start => rfl
 | move _ _ _ ih => exact ih
 | opens h1 h2 h3 h4 ih =>
  rename_i i r x t u
  have hr := zR5 (zAT (zG0 D zD2 h1).2) h2 (fun e => by rw [e] at h3; cases h3)
  rw [hr, ih, List.nil_append] at h4
  have := (zBz (G := GB) zD2 (t := 0) (.inl rfl) (l := []) (u := u)).1 h4
  rcases this with h5 | ⟨_, h5⟩
  ·obtain ⟨pre, y, post, e, _⟩ := h5
   simp at e
  ·exact h5
theorem zTq : La GB qB 2 (1, 1) 0 := by
 have h1 : La GB qB 0 (2, 0) 0 := .start
 have h2 : La GB qB 0 (1, 0) 0 := .opens (r := 1) h1 (by decide +kernel) (by decide +kernel) ((zBz (G := GB) zD2 (.inl rfl)).2 (.inr ⟨(fun z hz => by cases hz), rfl⟩))
 exact .move (x := (1, 0)) h2 (by decide +kernel) (by decide +kernel)
open Classical in
theorem zS5 (D : Done GB qB) : laL GB qB 2 (1, 1) = [0] := by
 unfold laL
 have h0 : decide (La GB qB 2 (1, 1) ((0 : Nat) : Int)) = true := decide_eq_true zTq
 have h1 : decide (La GB qB 2 (1, 1) ((1 : Nat) : Int)) = false := decide_eq_false fun h => by
  have := zLe D h
  omega
 have h2 : decide (La GB qB 2 (1, 1) ((2 : Nat) : Int)) = false := decide_eq_false fun h => by
  have := zLe D h
  omega
 show (List.range 3).filter _ = _
 rw [show List.range 3 = [0, 1, 2] from rfl]
 simp only [List.filter_cons, List.filter_nil, h0, h1, h2]
 rfl
open Classical in
theorem zLS (C : List Itm) {i : Nat} (h : Is C (Clo GB (zAG qB.1 i))) : zAe GB qB i = ((List.range 3).filter fun k => decide (endI GB k ∈ C)).map fun k => (k, laL GB qB i (endI GB k)) := by
 unfold zAe
 congr 1
 refine List.filter_congr fun k _ => ?_
 rw [Bool.eq_iff_iff, decide_eq_true_iff, decide_eq_true_iff, h.2]
theorem zTD (D : Done GB qB) : zAe GB qB 2 = [(1, [0])] := by
 rw [zLS _ (zEN (G := GB) (L := k2) 4 (by decide +kernel) (by decide +kernel) (by decide +kernel))]
 have e : ((List.range 3).filter fun k => decide (endI GB k ∈ cloN GB 4 k2)) = [1] := by decide +kernel
 rw [e, List.map_cons, List.map_nil]
 have e2 : endI GB 1 = (1, 1) := by decide +kernel
 rw [e2, zS5 D]
theorem zQ4 : zAe GB qB 0 = [] := by
 rw [zLS _ (zEN (G := GB) (L := k0) 4 (by decide +kernel) (by decide +kernel) (by decide +kernel))]
 have e : ((List.range 3).filter fun k => decide (endI GB k ∈ cloN GB 4 k0)) = [] := by decide +kernel
 rw [e, List.map_nil]
theorem zPz {er : Int} {Ys : List (List (Nat × List Nat))} (h : LookIs GB er Ys) : er = 0 /\ ∃ h5 : Ys.length = 5, Ys[0] = [] /\ Ys[2] = [(1, [0])] := by
 cases h with
 | bad h1 h2 => exact absurd (h1.uniq zME).1 h2
 | all h1 h2 h3 h4 =>
  obtain rfl := zRD h4 h2
  refine ⟨rfl, by rw [zBI]; rfl, ?_, ?_⟩
  ·simp only [zCO, List.getElem_map, List.getElem_range]
   exact zQ4
  ·simp only [zCO, List.getElem_map, List.getElem_range]
   exact zTD h2
end Lk
namespace Lk
open Go.RowKit Go.Maps
open Gr (Gram Sh gv GAt Bx boxed Fits zAA zAK)
open Im
open Au
def lw (W : World) : World :=
 ((((W.alloc (.cells #[.string ⟨#[65]⟩, .string ⟨#[66]⟩] 9)).alloc (.cells #[.string ⟨#[115]⟩] 9)).alloc (.cells #[.int .i64 1, .int .i64 3] 3)).alloc (.cells #[.int .i64 2] 3)).alloc
  (.cells #[.int .i64 3, .slice (some ⟨W.heap.size + 1 + 1, 0, none⟩) 2 2, .int .i64 3, .slice (some ⟨W.heap.size + 1 + 1 + 1, 0, none⟩) 1 1] 41)
def ah (W : World) : Sh := ⟨some ⟨W.heap.size, 0, none⟩, 2, some ⟨W.heap.size + 1, 0, none⟩, 1, some ⟨W.heap.size + 1 + 1 + 1 + 1, 0, none⟩, 2⟩
theorem zIj (W : World) : Below W.heap.size W (lw W) := Gr.step (Gr.step (Gr.step (Gr.step (boxed _ _) (boxed _ _)) (boxed _ _)) (boxed _ _)) (boxed _ _)
theorem zHf (W : World) : (lw W).heap.size = W.heap.size + 5 := by simp [lw]
theorem fitz (x : Int) (h : -1000 <= x) (k : x <= 1000) : Fits x := ⟨by omega, by omega⟩
theorem zSf (W : World) : GAt (ah W) GB (lw W) := by
 refine ⟨fun i hi => ?_, fun i hi => ?_, fun i hi => ?_, by simp [ah, GB], by simp [GB], by simp [GB], by simp [ah, GB], by simp [GB], ⟨?_, ?_, fitz _ (by decide) (by decide), ?_, ?_⟩⟩
 ·have h2 : i < 2 := hi
  refine ⟨W.heap.size, 0, rfl, ?_⟩
  have : i = 0 \/ i = 1 := by omega
  rcases this with rfl | rfl <;> exact zAK (zAK (zAK (zAK (zAA rfl rfl))))
 ·have h2 : i < 1 := hi
  refine ⟨W.heap.size + 1, 0, rfl, ?_⟩
  obtain rfl : i = 0 := by omega
  exact zAK (zAK (zAK (zAA (by simp) rfl)))
 ·have h2 : i < 2 := hi
  have : i = 0 \/ i = 1 := by omega
  rcases this with rfl | rfl
  ·refine ⟨W.heap.size + 1 + 1 + 1 + 1, 0, some ⟨W.heap.size + 1 + 1, 0, none⟩, 2, rfl, zAA (by simp) rfl, zAA (by simp) rfl, fun j hj => ?_, by simp [GB], by simp [GB]⟩
   have h3 : j < 2 := hj
   refine ⟨W.heap.size + 1 + 1, 0, rfl, ?_⟩
   have : j = 0 \/ j = 1 := by omega
   rcases this with rfl | rfl <;> exact zAK (zAK (zAA (by simp) rfl))
  ·refine ⟨W.heap.size + 1 + 1 + 1 + 1, 0, some ⟨W.heap.size + 1 + 1 + 1, 0, none⟩, 1, rfl, zAA (by simp) rfl, zAA (by simp) rfl, fun j hj => ?_, by simp [GB], by simp [GB]⟩
   have h3 : j < 1 := hj
   obtain rfl : j = 0 := by omega
   exact ⟨W.heap.size + 1 + 1 + 1, 0, rfl, zAK (zAA (by simp) rfl)⟩
 ·intro s hs
  simp only [GB, List.mem_cons, List.not_mem_nil, or_false] at hs
  rcases hs with rfl | rfl <;> simp [ByteArray.size]
 ·intro s hs
  simp only [GB, List.mem_cons, List.not_mem_nil, or_false] at hs
  subst hs
  simp [ByteArray.size]
 ·intro r hr
  simp only [GB, List.mem_cons, List.not_mem_nil, or_false] at hr
  rcases hr with rfl | rfl <;> exact fitz _ (by decide) (by decide)
 ·intro r hr x hx
  simp only [GB, List.mem_cons, List.not_mem_nil, or_false] at hr
  rcases hr with rfl | rfl
  ·simp only [List.mem_cons, List.not_mem_nil, or_false] at hx
   rcases hx with rfl | rfl <;> exact fitz _ (by decide) (by decide)
  ·simp only [List.mem_cons, List.not_mem_nil, or_false] at hx
   subst hx
   exact fitz _ (by decide) (by decide)
abbrev gl (W : World) : Value := .agg #[.slice (some ⟨W.heap.size, 0, none⟩) 2 2, .slice (some ⟨W.heap.size + 1, 0, none⟩) 1 1, .slice (some ⟨W.heap.size + 1 + 1 + 1 + 1, 0, none⟩) 2 2, .int .i64 3]
theorem zQB {W w : World} (X : Bx (lw W) (ah W) GB w) : w.cell? ⟨W.heap.size + 1 + 1 + 1 + 1 + 1, 0, none⟩ = some (.slice (some ⟨W.heap.size, 0, none⟩) 2 2) /\ w.cell? ⟨W.heap.size + 1 + 1 + 1 + 1 + 1, 1, none⟩ = some (.slice (some ⟨W.heap.size + 1, 0, none⟩) 1 1) /\
  w.cell? ⟨W.heap.size + 1 + 1 + 1 + 1 + 1, 2, none⟩ = some (.slice (some ⟨W.heap.size + 1 + 1 + 1 + 1, 0, none⟩) 2 2) /\ w.cell? ⟨W.heap.size + 1 + 1 + 1 + 1 + 1, 3, none⟩ = some (.int .i64 3) := by
 have h := X.box
 rw [zHf] at h
 exact ⟨h.x0, h.x1, h.x2, h.x3⟩
theorem zGY (h : Sh) (G : Gram) (w : World) (k : GAt h G w) (htab : Bt.Tab w) : Calls Tryz.prog 9 #[gv h G] w (zIg G w) :=
 (zPI h G w k htab).mono fun e w' ⟨er, Ys, a, c, h1, h2, h3, h4⟩ => ⟨er, Ys, a, c, h1, h2, h3.reads, h4⟩
def GotL (w : World) (e : Ending) (w' : World) : Prop := ∃ b c a0 c0 b2 c2 b3 o3 c3, e = .returned (.tuple #[.slice (some ⟨b, 0, none⟩) 5 c, .int .i64 0]) /\ w'.cell? ⟨b, 0, none⟩ = some (.slice a0 0 c0) /\ w'.cell? ⟨b, 2, none⟩ = some (.slice (some ⟨b2, 0, none⟩) 1 c2) /\ w'.cell? ⟨b2, 0, none⟩ = some (.int .i64 1) /\ w'.cell? ⟨b2, 1, none⟩ = some (.slice (some ⟨b3, o3, none⟩) 1 c3) /\ w'.cell? ⟨b3, o3, none⟩ = some (.int .i64 0) /\ Below w.heap.size w w'
theorem zSh (W w : World) (k : GAt (ah W) GB w) (htab : Bt.Tab w) : Calls Tryz.prog 9 #[gv (ah W) GB] w (GotL w) :=
 (zGY (ah W) GB w k htab).mono fun e w' ⟨er, Ys, a, c, h1, h2, h3, h4⟩ => by
  obtain ⟨rfl, h5, y0, y2⟩ := zPz h2
  obtain ⟨b, a0, c0, rfl, p0, _⟩ := h3 0 (by omega)
  obtain ⟨b', a2, c2, e2, p2, p3⟩ := h3 2 (by omega)
  simp only [Option.some.injEq, Addr.mk.injEq, and_true] at e2
  subst e2
  rw [y0] at p0
  rw [y2] at p2 p3
  obtain ⟨b2, a3, c3, rfl, r0, r1, r2⟩ := p3 0 (by simp)
  obtain ⟨b3, o3, rfl, s0⟩ := r2 0 (by simp [nivs])
  exact ⟨b, c, a0, c0, b2, c2, b3, o3, c3, by rw [h1, h5], by simpa using p0, by simpa using p2, by simpa using r0, by simpa using r1, by simpa [nivs] using s0, h4⟩
theorem zLP (W : World) (htab : Bt.Tab W) : Calls Tryz.prog 7 #[] W (Gr.Is (.bool true) W) := by
 have KG := zUB (fun w1 (b : Below (lw W).heap.size (lw W) w1) => (zSf W).went b)
 have X0 := zUB (Bx.start (ah W) GB (lw W) 25)
 have BL := zUB (zIj W)
 obtain ⟨wq, hwq⟩ : ∃ wq, (lw W).alloc (.cells #[.slice (ah W).a1 GB.terms.length (ah W).c1, .slice (ah W).a2 GB.nons.length (ah W).c2, .slice (ah W).a3 GB.rules.length (ah W).c3, .int .i64 GB.start] 25) = wq := ⟨_, rfl⟩
 rw [hwq] at X0
 have HB0 := zUB (Gr.step BL.out X0.out.below)
 have CB := zUB (show Calls Tryz.prog 9 #[gl W] wq (GotL wq) from zSh W wq (KG.out wq X0.out.below) (htab.below HB0.out htab.pos))
 unfold lw at hwq
 unfold ah at hwq
 simp only [GB, List.length_cons, List.length_nil, Nat.reduceAdd] at hwq
 go_enter Tryz.func7, Tryz.ntmps7
 obtain ⟨g0, g1, g2, g3⟩ := zQB X0.out
 go_wp2_with (go_at_call 9; refine CB.out.mono ?_; rintro e w1 ⟨b, c, a0, c0, b2, c2, b3, o3, c3, rfl, p0, p2, r0, r1, s0, hb⟩; have H1 := zUB (Gr.step HB0.out hb); clear hb)
 go_ret
 exact ⟨rfl, H1.out⟩
end Lk
namespace Le
def zCU (v w : List Int) (k : Nat) : Prop := v.take k = w.take k
theorem zKh (v w : List Int) : zCU v w 0 := rfl
theorem zLs {v w : List Int} {k : Nat} (h : zCU v w k) (hv : k < v.length) (hw : k < w.length) (e : v[k] = w[k]) : zCU v w (k + 1) := by
 unfold zCU at h ⊢
 rw [List.take_succ_eq_append_getElem hv, List.take_succ_eq_append_getElem hw, h, e]
theorem zPR {v w : List Int} {k : Nat} (h : zCU v w k) (hv : ¬ k < v.length) (hl : v.length = w.length) : v = w := by
 unfold zCU at h
 rwa [List.take_of_length_le (by omega), List.take_of_length_le (by omega)] at h
end Le
namespace Le
open Go.RowKit Go.Maps
theorem zP8 (w : World) (n : Nat) : Below w.heap.size w (w.drewN n) := ⟨rfl, rfl, rfl, Nat.le_refl _, fun _ _ => rfl⟩
end Le
namespace Le
open Go.RowKit Go.Maps
open Gr (Is step ivs zBr zAE)
theorem zQf {v w : List Int} {k : Nat} (hv : k < v.length) (hw : k < w.length) (e : v[k] ≠ w[k]) : v ≠ w := fun h => by
 subst h
 exact e rfl
theorem zPy (X Y : List Int) (a b : Option Addr) (c d : Nat) (w : World) (hX : Sep.Reads a (ivs X) w) (hY : Sep.Reads b (ivs Y) w) (hm : X.length <= 100000) (hm2 : Y.length <= 100000) :
  Calls Tryz.prog 29 #[.slice a X.length c, .slice b Y.length d] w (Is (.bool (decide (X = Y))) w) := by
 by_cases hl : X.length = Y.length
 ·have HX := zUB (fun w1 (bb : Below w.heap.size w w1) => Sep.Reads.below hX bb (Nat.le_refl _))
  have HY := zUB (fun w1 (bb : Below w.heap.size w w1) => Sep.Reads.below hY bb (Nat.le_refl _))
  have HL := zUB hl
  rw [← hl]
  clear hX hY hl hm2
  go_enter Tryz.func29, Tryz.ntmps29
  go_wp2
  go_loopw [5] (fun i wr => ∃ k : Nat, k <= X.length /\ i = .int .i64 k /\ zCU X Y k /\ Below w.heap.size w wr) (fun i _ => X.length - (intOf i).toNat)
  case atStart => exact ⟨0, Nat.zero_le _, rfl, zKh _ _, .refl _ _⟩
  case round =>
   obtain ⟨k, hk, rfl, hS, hB⟩ := hrel
   have S := zUB hS
   have B := zUB hB
   clear hS hB
   by_cases hlt : k < X.length
   ·have hlt2 : k < Y.length := by rw [← HL.out]; exact hlt
    obtain ⟨b1, o1, e1, hc1⟩ := zBr (HX.out _ B.out) hlt
    obtain ⟨b2, o2, e2, hc2⟩ := zBr (HY.out _ B.out) hlt2
    have NS := zUB (fun he => zLs S.out hlt hlt2 he)
    have NE := zUB (fun he => zQf hlt hlt2 he)
    generalize X[k] = x at *
    generalize Y[k] = y at *
    subst e1 e2
    have i0 : (0 : Int) <= (k : Int) := by omega
    have i1 : (k : Int) < (X.length : Int) := by omega
    by_cases hxy : x = y
    ·have S2 := zUB (NS.out hxy)
     have hb : (x != y) = false := by simpa using hxy
     clear hxy NS NE hlt2
     go_wp2
     go_quiet (fail)
     go_wp2
     go_roundw
     case rel => exact ⟨k + 1, by omega, by go_num, S2.out, Gr.step B.out (zP8 _ _)⟩
     case measure => simp [intOf]; omega
    ·have E := zUB (decide_eq_false (NE.out hxy))
     have hb : (x != y) = true := by simpa using hxy
     clear hxy NS NE hlt2
     go_wp2
     go_quiet (fail)
     go_wp2
     go_ret
     exact ⟨zAE E.out, Gr.step B.out (zP8 _ _)⟩
   ·have E := zUB (decide_eq_true (zPR S.out hlt HL.out))
    go_wp2
    go_ret
    exact ⟨zAE E.out, B.out⟩
 ·have E := zUB (show decide (X = Y) = false from decide_eq_false fun e => hl (by rw [e]))
  have hb : ((X.length : Int) != (Y.length : Int)) = true := by simp; omega
  clear hX hY hl
  generalize decide (X = Y) = ans at *
  generalize X.length = n at *
  generalize Y.length = m at *
  go_enter Tryz.func29, Tryz.ntmps29
  go_wp2
  go_ret
  exact ⟨zAE E.out, .refl _ _⟩
end Le
namespace Lk
open Go.RowKit Go.Maps
open Gr (cell_later drawn ivs)
theorem zGj (l : List Nat) : nivs l = ivs (l.map fun t : Nat => (t : Int)) := by simp [nivs, ivs, Gr.iv]
theorem zIH (Ys : List (List (Nat × List Nat))) (a b : Option Addr) (c d : Nat) (w : World) (hX : LkR a Ys w) (hY : LkR b Ys w) (h1 : Ys.length <= 1000000) (h2 : ∀ Y ∈ Ys, Y.length <= 1000000 /\ ∀ y ∈ Y, y.2.length <= 100000) :
  Calls Tryz.prog 10 #[.slice a Ys.length c, .slice b Ys.length d] w (Gr.Is (.bool true) w) := by
 have A := zUB hX
 have B := zUB hY
 have H2 := zUB h2
 clear hX hY h2
 go_enter Tryz.func10, Tryz.ntmps10
 go_wp2_with fail
 go_loopw [5] (fun t wr => ∃ i : Nat, t = .int .i64 i /\ i <= Ys.length /\ Below w.heap.size w wr) (fun t _ => Ys.length - (intOf t).toNat)
 case atStart => exact ⟨0, rfl, Nat.zero_le _, .refl _ _⟩
 case round =>
  obtain ⟨i, rfl, hil, hB⟩ := hrel
  have B0 := zUB hB
  clear hB
  by_cases hi : i < Ys.length
  ·obtain ⟨hY1, hY2⟩ := H2.out _ (List.getElem_mem hi)
   obtain ⟨ba, a2, c2, rfl, p0, p1⟩ := (A.out.went B0.out) i hi
   obtain ⟨bb, b2, d2, rfl, q0, q1⟩ := (B.out.went B0.out) i hi
   have P1 := zUB p1
   have Q1 := zUB q1
   have hi3 : (i : Int) < (Ys.length : Int) := by omega
   have hi0 : (0 : Int) <= (i : Int) := by omega
   generalize Ys[i] = Y at *
   have kA := drawn wr
   have HQ := zUB (fun w' (k : Below wr.heap.size wr w') => (show w'.cell? ⟨ba, i, none⟩ = some (.slice a2 Y.length c2) /\ w'.cell? ⟨bb, i, none⟩ = some (.slice b2 Y.length d2) from ⟨cell_later k p0, cell_later k q0⟩))
   clear p0 p1 q0 q1
   go_wp2_with fail
   go_region_held3 (fun w' => w'.cell? ⟨ba, i, none⟩ = some (.slice a2 Y.length c2) /\ w'.cell? ⟨bb, i, none⟩ = some (.slice b2 Y.length d2))
    (exact HQ.out _ (by assumption))
    (fail)
   go_wp2_with fail
   go_loopw [6] (fun t wz => ∃ k : Nat, t = .int .i64 k /\ k <= Y.length /\ Below wr.heap.size wr wz) (fun t _ => Y.length - (intOf t).toNat)
   case atStart => exact ⟨0, rfl, Nat.zero_le _, kA⟩
   case round =>
    rename_i wo
    obtain ⟨k, rfl, hkl, hB⟩ := hrel
    have B4 := zUB (Gr.step B0.out hB)
    have BI := zUB hB
    obtain ⟨p0, q0⟩ := HQ.out _ hB
    by_cases hlt : k < Y.length
    ·obtain ⟨b8, a8, c8, rfl, r0, r1, r2⟩ := (P1.out.went hB) k hlt
     obtain ⟨b9, a9, c9, rfl, s0, s1, s2⟩ := (Q1.out.went hB) k hlt
     have hyl := hY2 _ (List.getElem_mem hlt)
     generalize Y[k] = y at *
     obtain ⟨yr, yl⟩ := y
     dsimp only at r0 r1 r2 s0 s1 s2 hyl
     have hk3 : (k : Int) < (Y.length : Int) := by omega
     have hk0 : (0 : Int) <= (k : Int) := by omega
     have II := zUB (fun w1 (b : Below wr.heap.size wr w1) => (show Calls Tryz.prog 29 #[.slice a8 yl.length c8, .slice a9 yl.length c9] w1 (Gr.Is (.bool true) w1) from by
      have := Le.zPy (yl.map fun t : Nat => (t : Int)) (yl.map fun t : Nat => (t : Int)) a8 a9 c8 c9 w1 (by rw [← zGj]; exact r2.below b (Nat.le_refl _)) (by rw [← zGj]; exact s2.below b (Nat.le_refl _)) (by rw [List.length_map]; exact hyl) (by rw [List.length_map]; exact hyl)
      rwa [decide_eq_true rfl, List.length_map] at this))
     have HR := zUB (fun w' (k2 : Below wr.heap.size wr w') => (show w'.cell? ⟨ba, i, none⟩ = some (.slice (some ⟨b8, 0, none⟩) Y.length c2) /\ w'.cell? ⟨bb, i, none⟩ = some (.slice (some ⟨b9, 0, none⟩) Y.length d2) /\ w'.cell? ⟨b8, k * 2, none⟩ = some (.int .i64 (yr : Int)) /\ w'.cell? ⟨b8, k * 2 + 1, none⟩ = some (.slice a8 yl.length c8) /\ w'.cell? ⟨b9, k * 2, none⟩ = some (.int .i64 (yr : Int)) /\ w'.cell? ⟨b9, k * 2 + 1, none⟩ = some (.slice a9 yl.length c9) from ⟨cell_later k2 p0, cell_later k2 q0, cell_later k2 r0, cell_later k2 r1, cell_later k2 s0, cell_later k2 s1⟩))
     have kW := drawn wr
     clear r0 r1 r2 s0 s1 s2 hB HQ P1 Q1 kA
     go_wp2_with fail
     clear p0 q0
     go_region_held3 (fun w' => w'.cell? ⟨ba, i, none⟩ = some (.slice (some ⟨b8, 0, none⟩) Y.length c2) /\ w'.cell? ⟨bb, i, none⟩ = some (.slice (some ⟨b9, 0, none⟩) Y.length d2) /\ w'.cell? ⟨b8, k * 2, none⟩ = some (.int .i64 (yr : Int)) /\ w'.cell? ⟨b8, k * 2 + 1, none⟩ = some (.slice a8 yl.length c8) /\ w'.cell? ⟨b9, k * 2, none⟩ = some (.int .i64 (yr : Int)) /\ w'.cell? ⟨b9, k * 2 + 1, none⟩ = some (.slice a9 yl.length c9))
      (exact HR.out _ (by assumption))
      (first
       | (go_at_call 29; (with_reducible refine (II.out _ kW).mono ?_); rintro e w7 ⟨rfl, hb7⟩; have kB : Below wr.heap.size wr w7 := Gr.step kW hb7; clear hb7)
       | fail)
     go_wp2_with fail
     go_roundw
     case rel => exact ⟨k + 1, by go_num, by omega, Gr.step BI.out kB⟩
     case measure => simp [intOf]; omega
    ·have hkk : k = Y.length := by omega
     subst hkk
     clear hB
     go_wp2_with fail
     go_roundw
     case rel => exact ⟨i + 1, by go_num, by omega, B4.out⟩
     case measure => simp [intOf]; omega
  ·have hii : i = Ys.length := by omega
   subst hii
   go_wp2_with fail
   go_ret
   exact ⟨rfl, B0.out⟩
