/- A part of the proof. -/
import Derived.Test.YtnfbjlainpenaaaGreatDoorPk49
import Derived.Test.YtnfbjlainpenaaaGreatDoorPk50
set_option maxHeartbeats 8000000
set_option maxRecDepth 100000
set_option linter.unusedVariables false
namespace Go.Proofs.YtnfbjlainpenaaaGreatDoor
open Go.RowKit Go.Maps
namespace Ac
open Gr (Gram Sh GAt gv checkN)
open Lk (qB zDz fitz)
open Au
open Go.Proofs.YtnfbjlainpenaaaGreatDoor.Sep
theorem zIN {G : Gram} {q : Whole} : tabL G q ≠ tab0 := fun e => by
 have h := congrArg Tb5.rules e
 simp [tabL, tab0] at h
theorem zIM {G : Gram} {er : Int} (h : TabIs G er tab0) : (Built G er [] /\ er ≠ 0) \/ ∃ q, checkN G = 0 /\ Done G q /\ Built G 0 (states q) /\ zAQ G q ≠ [] /\ er = 12 := by
 generalize hT : tab0 = T at h
 cases h with
 | bad h1 h2 => exact .inl ⟨h1, h2⟩
 | clash h1 h2 h3 h4 h5 => exact .inr ⟨_, h1, h2, h4, h5, rfl⟩
 | all h1 h2 h3 h4 h5 => exact absurd hT.symm zIN
def GotT (G : Gram) (q : Whole) (w : World) (e : Ending) (w' : World) : Prop := ∃ (aR : Option Addr) (cR : Nat) (aA : Option Addr) (cA : Nat) (aG : Option Addr) (cG : Nat), e = .returned (.tuple #[.agg (tv G q aR cR aA cA aG cG), .int .i64 0]) /\ TabD G q aR aA aG w' /\ G.rules.length + 1 <= cR /\ Below w.heap.size w w'
theorem zPQ {G : Gram} {er : Int} {L : List Cl4} {w w' : World} {e : Ending} (hc : ClashIs G er L) (ho : OfGave G w e w') :
  (er ≠ 0 /\ L = [] /\ e = .returned (.tuple #[.agg zCX, .int .i64 er]) /\ Below w.heap.size w w') \/ (er = 0 /\ L ≠ [] /\ e = .returned (.tuple #[.agg zCX, .int .i64 12]) /\ Below w.heap.size w w') \/
  (er = 0 /\ L = [] /\ ∃ q, Built G 0 (states q) /\ Done G q /\ checkN G = 0 /\ GotT G q w e w') := by
 cases hc with
 | bad h1 h2 =>
  cases ho with
  | no k1 k2 k3 =>
   rcases zIM k1 with ⟨m1, m2⟩ | ⟨q, _, _, m3, _, _⟩
   ·obtain ⟨rfl, _⟩ := h1.uniq m1
    exact .inl ⟨h2, rfl, k2, k3⟩
   ·exact absurd (h1.uniq m3).1 h2
  | yes k1 k2 k3 k4 k5 k6 k7 k8 k9 => exact absurd (h1.uniq k4).1 h2
 | all h1 h2 h3 h4 =>
  cases ho with
  | no k1 k2 k3 =>
   rcases zIM k1 with ⟨m1, m2⟩ | ⟨q2, _, m2, m3, m4, rfl⟩
   ·exact absurd (h4.uniq m1).1.symm m2
   ·have e := Lk.zBE h2.all m2.all (h4.uniq m3).2
    subst e
    exact .inr (.inl ⟨rfl, m4, k2, k3⟩)
  | yes k1 k2 k3 k4 k5 k6 k7 k8 k9 =>
   have e := Lk.zBE h2.all k2.all (h4.uniq k4).2
   subst e
   exact .inr (.inr ⟨rfl, k5, _, h4, h2, h1, _, _, _, _, _, _, k7, ⟨k1, k2, k3, k8⟩, k6, k9⟩)
theorem zSK {w : World} {bt bn br b1 b2 : Nat} (t0 : w.cell? ⟨bt, 0, none⟩ = some (.string ⟨#[65]⟩)) (t1 : w.cell? ⟨bt, 1, none⟩ = some (.string ⟨#[66]⟩)) (n0 : w.cell? ⟨bn, 0, none⟩ = some (.string ⟨#[115]⟩))
  (r0 : w.cell? ⟨br, 0, none⟩ = some (.int .i64 3)) (r1 : w.cell? ⟨br, 1, none⟩ = some (.slice (some ⟨b1, 0, none⟩) 2 2)) (r2 : w.cell? ⟨br, 2, none⟩ = some (.int .i64 3)) (r3 : w.cell? ⟨br, 3, none⟩ = some (.slice (some ⟨b2, 0, none⟩) 1 1))
  (c0 : w.cell? ⟨b1, 0, none⟩ = some (.int .i64 1)) (c1 : w.cell? ⟨b1, 1, none⟩ = some (.int .i64 3)) (d0 : w.cell? ⟨b2, 0, none⟩ = some (.int .i64 2)) :
  GAt ⟨some ⟨bt, 0, none⟩, 2, some ⟨bn, 0, none⟩, 1, some ⟨br, 0, none⟩, 2⟩ GB w := by
 refine ⟨fun i hi => ?_, fun i hi => ?_, fun i hi => ?_, by simp [GB], by simp [GB], by simp [GB], by simp [GB], by simp [GB], ⟨?_, ?_, fitz _ (by decide) (by decide), ?_, ?_⟩⟩
 ·have h2 : i < 2 := hi
  refine ⟨bt, 0, rfl, ?_⟩
  have : i = 0 \/ i = 1 := by omega
  rcases this with rfl | rfl
  ·exact t0
  ·exact t1
 ·have h2 : i < 1 := hi
  refine ⟨bn, 0, rfl, ?_⟩
  obtain rfl : i = 0 := by omega
  exact n0
 ·have h2 : i < 2 := hi
  have : i = 0 \/ i = 1 := by omega
  rcases this with rfl | rfl
  ·refine ⟨br, 0, some ⟨b1, 0, none⟩, 2, rfl, r0, r1, fun j hj => ?_, by simp [GB], by simp [GB]⟩
   have h3 : j < 2 := hj
   refine ⟨b1, 0, rfl, ?_⟩
   have : j = 0 \/ j = 1 := by omega
   rcases this with rfl | rfl
   ·exact c0
   ·exact c1
  ·refine ⟨br, 0, some ⟨b2, 0, none⟩, 1, rfl, r2, r3, fun j hj => ?_, by simp [GB], by simp [GB]⟩
   have h3 : j < 1 := hj
   obtain rfl : j = 0 := by omega
   exact ⟨b2, 0, rfl, d0⟩
 ·intro s hs
  simp only [GB, List.mem_cons, List.not_mem_nil, or_false] at hs
  rcases hs with rfl | rfl <;> simp [ByteArray.size]
 ·intro s hs
  simp only [GB, List.mem_cons, List.not_mem_nil, or_false] at hs
  subst hs
  simp [ByteArray.size]
 ·intro r hr
  simp only [GB, List.mem_cons, List.not_mem_nil, or_false] at hr
  rcases hr with rfl | rfl <;> exact fitz _ (by decide) (by decide)
 ·intro r hr x hx
  simp only [GB, List.mem_cons, List.not_mem_nil, or_false] at hr
  rcases hr with rfl | rfl
  ·simp only [List.mem_cons, List.not_mem_nil, or_false] at hx
   rcases hx with rfl | rfl <;> exact fitz _ (by decide) (by decide)
  ·simp only [List.mem_cons, List.not_mem_nil, or_false] at hx
   subst hx
   exact fitz _ (by decide) (by decide)
theorem zSH {w : World} {bt bn br b1 b2 : Nat} (t0 : w.cell? ⟨bt, 0, none⟩ = some (.string ⟨#[65]⟩)) (t1 : w.cell? ⟨bt, 1, none⟩ = some (.string ⟨#[66]⟩)) (n0 : w.cell? ⟨bn, 0, none⟩ = some (.string ⟨#[115]⟩))
  (r0 : w.cell? ⟨br, 0, none⟩ = some (.int .i64 3)) (r1 : w.cell? ⟨br, 1, none⟩ = some (.slice (some ⟨b1, 0, none⟩) 3 3)) (r2 : w.cell? ⟨br, 2, none⟩ = some (.int .i64 3)) (r3 : w.cell? ⟨br, 3, none⟩ = some (.slice (some ⟨b2, 0, none⟩) 1 1))
  (c0 : w.cell? ⟨b1, 0, none⟩ = some (.int .i64 3)) (c1 : w.cell? ⟨b1, 1, none⟩ = some (.int .i64 1)) (c2 : w.cell? ⟨b1, 2, none⟩ = some (.int .i64 3)) (d0 : w.cell? ⟨b2, 0, none⟩ = some (.int .i64 2)) :
  GAt ⟨some ⟨bt, 0, none⟩, 2, some ⟨bn, 0, none⟩, 1, some ⟨br, 0, none⟩, 2⟩ GA w := by
 refine ⟨fun i hi => ?_, fun i hi => ?_, fun i hi => ?_, by simp [GA], by simp [GA], by simp [GA], by simp [GA], by simp [GA], ⟨?_, ?_, fitz _ (by decide) (by decide), ?_, ?_⟩⟩
 ·have h2 : i < 2 := hi
  refine ⟨bt, 0, rfl, ?_⟩
  have : i = 0 \/ i = 1 := by omega
  rcases this with rfl | rfl
  ·exact t0
  ·exact t1
 ·have h2 : i < 1 := hi
  refine ⟨bn, 0, rfl, ?_⟩
  obtain rfl : i = 0 := by omega
  exact n0
 ·have h2 : i < 2 := hi
  have : i = 0 \/ i = 1 := by omega
  rcases this with rfl | rfl
  ·refine ⟨br, 0, some ⟨b1, 0, none⟩, 3, rfl, r0, r1, fun j hj => ?_, by simp [GA], by simp [GA]⟩
   have h3 : j < 3 := hj
   refine ⟨b1, 0, rfl, ?_⟩
   have : j = 0 \/ j = 1 \/ j = 2 := by omega
   rcases this with rfl | rfl | rfl
   ·exact c0
   ·exact c1
   ·exact c2
  ·refine ⟨br, 0, some ⟨b2, 0, none⟩, 1, rfl, r2, r3, fun j hj => ?_, by simp [GA], by simp [GA]⟩
   have h3 : j < 1 := hj
   obtain rfl : j = 0 := by omega
   exact ⟨b2, 0, rfl, d0⟩
 ·intro s hs
  simp only [GA, List.mem_cons, List.not_mem_nil, or_false] at hs
  rcases hs with rfl | rfl <;> simp [ByteArray.size]
 ·intro s hs
  simp only [GA, List.mem_cons, List.not_mem_nil, or_false] at hs
  subst hs
  simp [ByteArray.size]
 ·intro r hr
  simp only [GA, List.mem_cons, List.not_mem_nil, or_false] at hr
  rcases hr with rfl | rfl <;> exact fitz _ (by decide) (by decide)
 ·intro r hr x hx
  simp only [GA, List.mem_cons, List.not_mem_nil, or_false] at hr
  rcases hr with rfl | rfl
  ·simp only [List.mem_cons, List.not_mem_nil, or_false] at hx
   rcases hx with rfl | rfl | rfl <;> exact fitz _ (by decide) (by decide)
  ·simp only [List.mem_cons, List.not_mem_nil, or_false] at hx
   subst hx
   exact fitz _ (by decide) (by decide)
def GotC (w : World) (e : Ending) (w' : World) : Prop := ∃ b c, e = .returned (.tuple #[.slice (some ⟨b, 0, none⟩) 1 c, .int .i64 0]) /\ w'.cell? ⟨b, 1, none⟩ = some (.int .i64 1) /\ Below w.heap.size w w'
theorem zPW (h : Sh) (w : World) (k : GAt h GA w) (htab : Bt.Tab w) : Calls Tryz.prog 9 #[gv h GA] w (GotC w) :=
 (zEh h GA w k htab).mono fun e w' ⟨er, L, a, c, h1, h2, h3, h4⟩ => by
  obtain ⟨rfl, rfl⟩ := zSI h2
  obtain ⟨b, rfl⟩ := Lk.zCP h3 (by decide)
  have t0 := World.ownsRow.cells h3 (g := b) rfl 1 (.int .i64 1) rfl
  rw [WideShapes.add_plain] at t0
  exact ⟨b, c, h1, by simpa using t0, h4⟩
theorem c_of (h : Sh) (w : World) (k : GAt h GB w) (htab : Bt.Tab w) : Calls Tryz.prog 10 #[gv h GB] w (GotT GB qB w) :=
 (zDS h GB w k htab).mono fun e w' ho => by
  cases ho with
  | no k1 k2 k3 => exact absurd (zRP k1).2.1.symm zIN
  | yes k1 k2 k3 k4 k5 k6 k7 k8 k9 =>
   have e := zDz k4 k2
   subst e
   exact ⟨_, _, _, _, _, _, k7, ⟨k1, k2, k3, k8⟩, k6, k9⟩
end Ac
namespace Ac
open Gr (GAt gv cell_later boxed zAB zAI)
open Lk (qB)
open Au
open Go.Proofs.YtnfbjlainpenaaaGreatDoor.Sep
def lwA (W : World) : World :=
 ((((W.alloc (.cells #[.string ⟨#[65]⟩, .string ⟨#[66]⟩] 9)).alloc (.cells #[.string ⟨#[115]⟩] 9)).alloc (.cells #[.int .i64 3, .int .i64 1, .int .i64 3] 3)).alloc (.cells #[.int .i64 2] 3)).alloc
  (.cells #[.int .i64 3, .slice (some ⟨W.heap.size + 1 + 1, 0, none⟩) 3 3, .int .i64 3, .slice (some ⟨W.heap.size + 1 + 1 + 1, 0, none⟩) 1 1] 57)
structure LA (W w : World) : Prop where
 below : Below W.heap.size W w
 t0 : w.cell? ⟨W.heap.size, 0, none⟩ = some (.string ⟨#[65]⟩)
 t1 : w.cell? ⟨W.heap.size, 1, none⟩ = some (.string ⟨#[66]⟩)
 n0 : w.cell? ⟨W.heap.size + 1, 0, none⟩ = some (.string ⟨#[115]⟩)
 g0 : w.cell? ⟨W.heap.size + 1 + 1 + 1 + 1 + 1, 0, none⟩ = some (.slice (some ⟨W.heap.size, 0, none⟩) 2 2)
 g1 : w.cell? ⟨W.heap.size + 1 + 1 + 1 + 1 + 1, 1, none⟩ = some (.slice (some ⟨W.heap.size + 1, 0, none⟩) 1 1)
 g2 : w.cell? ⟨W.heap.size + 1 + 1 + 1 + 1 + 1, 2, none⟩ = some (.slice (some ⟨W.heap.size + 1 + 1 + 1 + 1, 0, none⟩) 2 2)
 g3 : w.cell? ⟨W.heap.size + 1 + 1 + 1 + 1 + 1, 3, none⟩ = some (.int .i64 3)
theorem LA.went {W w w' : World} (h : LA W w) (hb : Below w.heap.size w w') : LA W w' :=
 ⟨Gr.step h.below hb, cell_later hb h.t0, cell_later hb h.t1, cell_later hb h.n0, cell_later hb h.g0, cell_later hb h.g1, cell_later hb h.g2, cell_later hb h.g3⟩
theorem zNU {W wq : World} (h : (lwA W).alloc (.cells #[.slice (some ⟨W.heap.size, 0, none⟩) 2 2, .slice (some ⟨W.heap.size + 1, 0, none⟩) 1 1, .slice (some ⟨W.heap.size + 1 + 1 + 1 + 1, 0, none⟩) 2 2, .int .i64 3] 25) = wq) :
  LA W wq /\ GAt ⟨some ⟨W.heap.size, 0, none⟩, 2, some ⟨W.heap.size + 1, 0, none⟩, 1, some ⟨W.heap.size + 1 + 1 + 1 + 1, 0, none⟩, 2⟩ GA wq := by
 subst h
 have t0 : ((lwA W).alloc (.cells #[.slice (some ⟨W.heap.size, 0, none⟩) 2 2, .slice (some ⟨W.heap.size + 1, 0, none⟩) 1 1, .slice (some ⟨W.heap.size + 1 + 1 + 1 + 1, 0, none⟩) 2 2, .int .i64 3] 25)).cell? ⟨W.heap.size, 0, none⟩ = some (.string ⟨#[65]⟩) := zAI (zAI (zAI (zAI (zAI (zAB rfl rfl)))))
 have t1 : ((lwA W).alloc (.cells #[.slice (some ⟨W.heap.size, 0, none⟩) 2 2, .slice (some ⟨W.heap.size + 1, 0, none⟩) 1 1, .slice (some ⟨W.heap.size + 1 + 1 + 1 + 1, 0, none⟩) 2 2, .int .i64 3] 25)).cell? ⟨W.heap.size, 1, none⟩ = some (.string ⟨#[66]⟩) := zAI (zAI (zAI (zAI (zAI (zAB rfl rfl)))))
 have n0 : ((lwA W).alloc (.cells #[.slice (some ⟨W.heap.size, 0, none⟩) 2 2, .slice (some ⟨W.heap.size + 1, 0, none⟩) 1 1, .slice (some ⟨W.heap.size + 1 + 1 + 1 + 1, 0, none⟩) 2 2, .int .i64 3] 25)).cell? ⟨W.heap.size + 1, 0, none⟩ = some (.string ⟨#[115]⟩) := zAI (zAI (zAI (zAI (zAB (by simp) rfl))))
 refine ⟨⟨Gr.step (Gr.step (Gr.step (Gr.step (Gr.step (boxed _ _) (boxed _ _)) (boxed _ _)) (boxed _ _)) (boxed _ _)) (boxed _ _), t0, t1, n0, zAB (by simp [lwA]) rfl, zAB (by simp [lwA]) rfl, zAB (by simp [lwA]) rfl, zAB (by simp [lwA]) rfl⟩, ?_⟩
 refine zSH (b1 := W.heap.size + 1 + 1) (b2 := W.heap.size + 1 + 1 + 1) t0 t1 n0 ?_ ?_ ?_ ?_ ?_ ?_ ?_ ?_
 ·exact zAI (zAB (by simp) rfl)
 ·exact zAI (zAB (by simp) rfl)
 ·exact zAI (zAB (by simp) rfl)
 ·exact zAI (zAB (by simp) rfl)
 ·exact zAI (zAI (zAI (zAB (by simp) rfl)))
 ·exact zAI (zAI (zAI (zAB (by simp) rfl)))
 ·exact zAI (zAI (zAI (zAB (by simp) rfl)))
 ·exact zAI (zAI (zAB (by simp) rfl))
def lwB (w : World) (bt bn : Nat) : World :=
 (((w.alloc (.cells #[.slice (some ⟨bt, 0, none⟩) 2 2, .slice (some ⟨bn, 0, none⟩) 1 1, .slice (some ⟨w.heap.size + 1 + 1 + 1, 0, none⟩) 2 2, .int .i64 3] 25)).alloc (.cells #[.int .i64 1, .int .i64 3] 3)).alloc (.cells #[.int .i64 2] 3)).alloc
  (.cells #[.int .i64 3, .slice (some ⟨w.heap.size + 1, 0, none⟩) 2 2, .int .i64 3, .slice (some ⟨w.heap.size + 1 + 1, 0, none⟩) 1 1] 57)
theorem zNV {w : World} {bt bn : Nat} (t0 : w.cell? ⟨bt, 0, none⟩ = some (.string ⟨#[65]⟩)) (t1 : w.cell? ⟨bt, 1, none⟩ = some (.string ⟨#[66]⟩)) (n0 : w.cell? ⟨bn, 0, none⟩ = some (.string ⟨#[115]⟩)) :
  Below w.heap.size w (lwB w bt bn) /\ GAt ⟨some ⟨bt, 0, none⟩, 2, some ⟨bn, 0, none⟩, 1, some ⟨w.heap.size + 1 + 1 + 1, 0, none⟩, 2⟩ GB (lwB w bt bn) := by
 have hb : Below w.heap.size w (lwB w bt bn) := Gr.step (Gr.step (Gr.step (boxed _ _) (boxed _ _)) (boxed _ _)) (boxed _ _)
 refine ⟨hb, zSK (b1 := w.heap.size + 1) (b2 := w.heap.size + 1 + 1) (cell_later hb t0) (cell_later hb t1) (cell_later hb n0) ?_ ?_ ?_ ?_ ?_ ?_ ?_⟩
 ·exact zAB (by simp) rfl
 ·exact zAB (by simp) rfl
 ·exact zAB (by simp) rfl
 ·exact zAB (by simp) rfl
 ·exact zAI (zAI (zAB (by simp) rfl))
 ·exact zAI (zAI (zAB (by simp) rfl))
 ·exact zAI (zAB (by simp) rfl)
theorem zIs (x : Int) (v : Value) (w : World) : (Instr.field 53 (.agg #[.int .i64 x, v]) 0).run Tryz.prog w = .ok (.int .i64 x) w := by kernel_rfl
theorem zRa : leads (qB.2.getD 0 []) (3 : Int) = 3 := by decide +kernel
theorem zJp (W : World) (htab : Bt.Tab W) : Calls Tryz.prog 6 #[] W (Gr.Is (.bool true) W) := by
 obtain ⟨wq, hwq⟩ : ∃ wq, (lwA W).alloc (.cells #[.slice (some ⟨W.heap.size, 0, none⟩) 2 2, .slice (some ⟨W.heap.size + 1, 0, none⟩) 1 1, .slice (some ⟨W.heap.size + 1 + 1 + 1 + 1, 0, none⟩) 2 2, .int .i64 3] 25) = wq := ⟨_, rfl⟩
 obtain ⟨L0, K0⟩ := zNU hwq
 have LQ := zSg L0
 have TB := zSg (fun w1 (b : Below W.heap.size W w1) => htab.below b htab.pos)
 have CB0 := zPW _ wq K0 (htab.below L0.below htab.pos)
 unfold gv at CB0
 simp only [GA, List.length_cons, List.length_nil, Nat.reduceAdd] at CB0
 have CB := zSg CB0
 clear CB0
 have g0 := L0.g0
 have g1 := L0.g1
 have g2 := L0.g2
 have g3 := L0.g3
 clear L0 K0 htab
 unfold lwA at hwq
 go_enter Tryz.func6, Tryz.ntmps6
 go_wp2_with fail
 refine CB.out.mono ?_
 rintro e w1 ⟨b, c, rfl, p1, hb⟩
 have L1 := zSg (LQ.out.went hb)
 clear hwq g0 g1 g2 g3 CB LQ hb
 have g0 := L1.out.g0
 have g1 := L1.out.g1
 have g2 := L1.out.g2
 have g3 := L1.out.g3
 go_wp2_with fail
 obtain ⟨B0, K0⟩ := zNV (bt := W.heap.size) (bn := W.heap.size + 1) L1.out.t0 L1.out.t1 L1.out.n0
 have BB := zSg B0
 have CO0 := c_of _ _ K0 (TB.out _ (Gr.step L1.out.below B0))
 have CO1 : Calls Tryz.prog 10 #[.agg #[.slice (some ⟨W.heap.size, 0, none⟩) 2 2, .slice (some ⟨W.heap.size + 1, 0, none⟩) 1 1, .slice (some ⟨w1.heap.size + 1 + 1 + 1, 0, none⟩) 2 2, .int .i64 3]] (lwB w1 W.heap.size (W.heap.size + 1)) (GotT GB qB (lwB w1 W.heap.size (W.heap.size + 1))) := CO0
 have P1 := zSg (cell_later B0 p1)
 have BW := zSg (Gr.step L1.out.below B0)
 have CO := zSg CO1
 clear CO0 CO1 K0 B0 g0 g1 g2 g3 p1 L1 BB
 unfold lwB at CO P1 BW
 generalize (((w1.alloc (.cells #[.slice (some ⟨W.heap.size, 0, none⟩) 2 2, .slice (some ⟨W.heap.size + 1, 0, none⟩) 1 1, .slice (some ⟨w1.heap.size + 1 + 1 + 1, 0, none⟩) 2 2, .int .i64 3] 25)).alloc (.cells #[.int .i64 1, .int .i64 3] 3)).alloc (.cells #[.int .i64 2] 3)).alloc
  (.cells #[.int .i64 3, .slice (some ⟨w1.heap.size + 1, 0, none⟩) 2 2, .int .i64 3, .slice (some ⟨w1.heap.size + 1 + 1, 0, none⟩) 1 1] 57) = w2 at *
 refine CO.out.mono ?_
 rintro e w3 ⟨aR, cR, aA, cA, aG, cG, rfl, hT, hcp, hb⟩
 have hv : tv GB qB aR cR aA cA aG cG = #[.slice aR 3 cR, .int .i64 2, .int .i64 1, .slice aA 5 cA, .slice aG 5 cG] := rfl
 have b4 := boxed w3 (.cells #[.slice aR 3 cR, .int .i64 2, .int .i64 1, .slice aA 5 cA, .slice aG 5 cG] 35)
 have B4 := zSg (Gr.step (Gr.step BW.out hb) b4)
 have p1 := cell_later b4 (cell_later hb P1.out)
 have TT := zSg (hT.went b4)
 have RI := zSg (show ∀ w1, Below (w3.alloc (.cells #[.slice aR 3 cR, .int .i64 2, .int .i64 1, .slice aA 5 cA, .slice aG 5 cG] 35)).heap.size (w3.alloc (.cells #[.slice aR 3 cR, .int .i64 2, .int .i64 1, .slice aA 5 cA, .slice aG 5 cG] 35)) w1 -> Calls Tryz.prog 14 #[.agg #[.slice aR 3 cR, .int .i64 2, .int .i64 1, .slice aA 5 cA, .slice aG 5 cG]] w1 (Gr.Is (.bool true) w1) from fun w1 b => zGT GB qB aR cR aA cA aG cG w1 (TT.out.went b) hcp)
 have TA := zSg (show ∀ w1, Below (w3.alloc (.cells #[.slice aR 3 cR, .int .i64 2, .int .i64 1, .slice aA 5 cA, .slice aG 5 cG] 35)).heap.size (w3.alloc (.cells #[.slice aR 3 cR, .int .i64 2, .int .i64 1, .slice aA 5 cA, .slice aG 5 cG] 35)) w1 -> Calls Tryz.prog 19 #[.agg #[.slice aR 3 cR, .int .i64 2, .int .i64 1, .slice aA 5 cA, .slice aG 5 cG], .int .i64 0, .int .i64 2] w1 (Gr.Is (.agg #[.int .i64 1, .int .i64 2]) w1) from fun w1 b => by
  have h := zJj GB qB aR cR aA cA aG cG w1 (TT.out.went b) 0 2 (by decide) (by decide)
  rw [zM6, hv] at h
  exact h)
 have TG := zSg (show ∀ w1, Below (w3.alloc (.cells #[.slice aR 3 cR, .int .i64 2, .int .i64 1, .slice aA 5 cA, .slice aG 5 cG] 35)).heap.size (w3.alloc (.cells #[.slice aR 3 cR, .int .i64 2, .int .i64 1, .slice aA 5 cA, .slice aG 5 cG] 35)) w1 -> Calls Tryz.prog 18 #[.agg #[.slice aR 3 cR, .int .i64 2, .int .i64 1, .slice aA 5 cA, .slice aG 5 cG], .int .i64 0, .int .i64 3] w1 (Gr.Is (.int .i64 3) w1) from fun w1 b => by
  have h := zGa GB qB aR cR aA cA aG cG w1 (TT.out.went b) 0 0 (by decide) (by decide)
  have e : ((GB.terms.length + 1 + 0 : Nat) : Int) = 3 := by decide
  rw [e, zRa, hv] at h
  exact h)
 have ZW := zSg (show ∀ w1, Below (w3.alloc (.cells #[.slice aR 3 cR, .int .i64 2, .int .i64 1, .slice aA 5 cA, .slice aG 5 cG] 35)).heap.size (w3.alloc (.cells #[.slice aR 3 cR, .int .i64 2, .int .i64 1, .slice aA 5 cA, .slice aG 5 cG] 35)) w1 -> w1.cell? ⟨w3.heap.size, 0, none⟩ = some (.slice aR 3 cR) /\ w1.cell? ⟨w3.heap.size, 1, none⟩ = some (.int .i64 2) /\ w1.cell? ⟨w3.heap.size, 2, none⟩ = some (.int .i64 1) /\ w1.cell? ⟨w3.heap.size, 3, none⟩ = some (.slice aA 5 cA) /\ w1.cell? ⟨w3.heap.size, 4, none⟩ = some (.slice aG 5 cG) from
  fun w1 b => (zCY (G := GB) (q := qB) (aR := aR) (cR := cR) (aA := aA) (cA := cA) (aG := aG) (cG := cG) w3 35).went b)
 obtain ⟨z0, z1, z2, z3, z4⟩ := ZW.out _ (.refl _ _)
 rw [hv]
 clear hT hcp hb b4 CO TB BW P1 hv
 go_wp2_with fail
 generalize w3.alloc (.cells #[.slice aR 3 cR, .int .i64 2, .int .i64 1, .slice aA 5 cA, .slice aG 5 cG] 35) = w4 at *
 refine (RI.out _ (.refl _ _)).mono ?_
 rintro e w5 ⟨rfl, hb⟩
 have B5 := zSg hb
 clear hb z0 z1 z2 z3 z4 p1 RI
 obtain ⟨z0, z1, z2, z3, z4⟩ := ZW.out _ B5.out
 go_wp2_with fail
 refine (TA.out _ B5.out).mono ?_
 rintro e w6 ⟨rfl, hb⟩
 have B6 := zSg (Gr.step B5.out hb)
 clear hb z0 z1 z2 z3 z4 TA
 obtain ⟨z0, z1, z2, z3, z4⟩ := ZW.out _ B6.out
 have hf := zIs
 go_wp2_with fail
 refine (TG.out _ B6.out).mono ?_
 rintro e w7 ⟨rfl, hb⟩
 have B7 := zSg (Gr.step B6.out hb)
 clear hb z0 z1 z2 z3 z4 TG
 go_wp2_with fail
 go_ret
 exact ⟨rfl, Gr.step B4.out B7.out⟩
end Ac
namespace Ac
open Gr (Gram Sh gv GAt Bx boxed zH1 top nonB zAV zH3)
open Im
open Au
theorem zLk (h : Sh) (G : Gram) (w : World) (k : GAt h G w) (htab : Bt.Tab w) :
  Calls Tryz.prog 4 #[gv h G] w (Gr.Is (.bool true) w) := by
 have X0 := zSg (Bx.start h G w 25)
 have MU := zSg (fun w1 (b : Below w.heap.size w w1) => zH1 h G w1 (k.went b))
 have CL := zSg (fun w1 (b : Below w.heap.size w w1) => zEh h G w1 (k.went b) (htab.below b htab.pos))
 have OF := zSg (fun w1 (b : Below w.heap.size w w1) => zDS h G w1 (k.went b) (htab.below b htab.pos))
 have BU := zSg (fun w1 (b : Below w.heap.size w w1) => zDs h G w1 (k.went b) (fun hv => Nat.le_trans (zC5 hv) (by omega)))
 have TP := zSg (fun w1 (b : Below w.heap.size w w1) => Gr.zIC h G w1 (k.went b))
 have NO := zSg (fun s w1 (b : Below w.heap.size w w1) => Gr.zOM h G s w1 (k.went b))
 have AW := zSg (fun w1 (b : Below w.heap.size w w1) => zJp w1 (htab.below b htab.pos))
 have hr3 := k.r2
 clear k htab
 obtain ⟨x0, x1, x2, x3⟩ := X0.out.box
 unfold gv at *
 go_enter Tryz.func4, Tryz.ntmps4
 go_wp2_with fail
 refine (MU.out _ X0.out.below).mono ?_
 rintro e w1 ⟨n, rfl, hn, hb⟩
 have X1 := zSg (X0.out.went hb)
 clear hb MU hn x0 x1 x2 x3 X0
 obtain ⟨x0, x1, x2, x3⟩ := X1.out.box
 by_cases hn9 : 60 < n
 ·go_wp2_with (go_at_call 6; refine (AW.out _ X1.out.below).mono ?_; rintro e w2 ⟨rfl, hb⟩; have HB := zSg (Gr.step X1.out.below hb); clear hb)
  go_ret
  exact ⟨rfl, HB.out⟩
 go_wp2_with fail
 refine (CL.out _ X1.out.below).mono ?_
 rintro e w2 ⟨er, L, a, c, rfl, hCI, _, hb⟩
 have X2 := zSg (X1.out.went hb)
 clear hb x0 x1 x2 x3 X1 CL hn9
 obtain ⟨x0, x1, x2, x3⟩ := X2.out.box
 go_wp2_with fail
 refine (OF.out _ X2.out.below).mono ?_
 rintro e w3 ho
 rcases zPQ hCI ho with ⟨h0, rfl, rfl, hb⟩ | ⟨rfl, h0, rfl, hb⟩ | ⟨rfl, rfl, q, hB, hD, hv, aR, cR, aA, cA, aG, cG, rfl, hT, hcp, hb⟩
 ·have X3 := zSg ((X2.out.went hb).alloc (.cells zCX 35))
  clear hb ho hCI x0 x1 x2 x3 X2 OF
  unfold zCX at *
  go_wp2_with (go_at_call 6; refine (AW.out _ X3.out.below).mono ?_; rintro e w4 ⟨rfl, hb⟩; have HB := zSg (Gr.step X3.out.below hb); clear hb)
  go_ret
  exact ⟨rfl, HB.out⟩
 ·have X3 := zSg ((X2.out.went hb).alloc (.cells zCX 35))
  have hL : (0 : Int) < (L.length : Int) := by
   have := List.length_pos_iff.2 h0
   omega
  have hL2 : 0 < L.length := by omega
  clear hb ho hCI x0 x1 x2 x3 X2 OF
  unfold zCX at *
  generalize L.length = ll at *
  go_wp2_with (go_at_call 6; refine (AW.out _ X3.out.below).mono ?_; rintro e w4 ⟨rfl, hb⟩; have HB := zSg (Gr.step X3.out.below hb); clear hb)
  go_ret
  exact ⟨rfl, HB.out⟩
 ·have Z3 := zSg (zCY (G := G) (q := q) (aR := aR) (cR := cR) (aA := aA) (cA := cA) (aG := aG) (cG := cG) w3 35)
  have X3 := zSg ((X2.out.went hb).alloc (.cells (tv G q aR cR aA cA aG cG) 35))
  have T3 := zSg (hT.went (boxed w3 (.cells (tv G q aR cR aA cA aG cG) 35)))
  have RI := zSg (fun w1 (b : Below (w3.alloc (.cells (tv G q aR cR aA cA aG cG) 35)).heap.size (w3.alloc (.cells (tv G q aR cR aA cA aG cG) 35)) w1) => zGT G q aR cR aA cA aG cG w1 (T3.out.went b) hcp)
  have TG := zSg (fun i k (hi : i < q.1.length) (hk : k < G.nons.length) w1 (b : Below (w3.alloc (.cells (tv G q aR cR aA cA aG cG) 35)).heap.size (w3.alloc (.cells (tv G q aR cR aA cA aG cG) 35)) w1) => zGa G q aR cR aA cA aG cG w1 (T3.out.went b) i k hi hk)
  have TA := zSg (fun i t (hi : i < q.1.length) (ht : t < G.terms.length + 1) w1 (b : Below (w3.alloc (.cells (tv G q aR cR aA cA aG cG) 35)).heap.size (w3.alloc (.cells (tv G q aR cR aA cA aG cG) 35)) w1) => zJj G q aR cR aA cA aG cG w1 (T3.out.went b) i t hi ht)
  clear hb ho hCI x0 x1 x2 x3 X2 OF hT
  obtain ⟨x0, x1, x2, x3⟩ := X3.out.box
  unfold tv at *
  go_wp2_with fail
  generalize w3.alloc (.cells #[.slice aR (G.rules.length + 1) cR, .int .i64 (G.terms.length : Int), .int .i64 (G.nons.length : Int), .slice aA q.1.length cA, .slice aG q.1.length cG] 35) = w4 at *
  refine (BU.out _ X3.out.below).mono ?_
  rintro e w5 ⟨X, fr, a', c', rfl, hbu, hX, hc, hb⟩
  obtain ⟨rfl, rfl⟩ := hbu.uniq hB
  have SM := zSg (Lk.zCf hB)
  have SX := zSg hX
  have X5 := zSg (X3.out.went hb)
  have B5 := zSg hb
  have Z5 := zSg (Z3.out.went hb)
  have hsl : (states q).length = q.1.length := zAc hD.all
  have GO := zSg (fun i (hi : i < q.1.length) s w1 (b : Below w5.heap.size w5 w1) => by
   have hg := zLj (states q) a' c' (i : Int) s w1 (SX.out.went b) SM.out
   rw [zCL hD hi] at hg
   exact hg)
  rw [hsl] at GO
  rw [hsl]
  clear hbu hX hc hb x0 x1 x2 x3 X3 BU Z3 SX
  obtain ⟨x0, x1, x2, x3⟩ := X5.out.box
  obtain ⟨z0, z1, z2, z3, z4⟩ := Z5.out
  have hql := T3.out.len
  have hsm := Fi.zAo hv
  have ht := hsm.t
  have hn := hsm.n
  have hrl := hsm.r
  have hw : IntKind.i64.wrap ((G.rules.length : Int) + 1) = (G.rules.length : Int) + 1 := by rw [IntKind.wrap_i64]; omega
  go_wp2_with fail
  refine (RI.out _ B5.out).mono ?_
  rintro e w6 ⟨rfl, hb⟩
  have X6 := zSg (X5.out.went hb)
  have B6 := zSg (Gr.step B5.out hb)
  have B56 := zSg hb
  have Z6 := zSg (Z5.out.went hb)
  clear hb x0 x1 x2 x3 X5 RI z0 z1 z2 z3 z4 Z5
  obtain ⟨x0, x1, x2, x3⟩ := X6.out.box
  obtain ⟨z0, z1, z2, z3, z4⟩ := Z6.out
  go_wp2_with fail
  clear x0 x1 x2 x3 z0 z1 z2 z3 z4
  go_loopw [9] (fun v wr => ∃ i : Nat, v = .int .i64 (i : Int) /\ i <= q.1.length /\ Below w6.heap.size w6 wr) (fun v _ => q.1.length - (intOf v).toNat)
  case atStart => exact ⟨0, rfl, Nat.zero_le _, .refl _ _⟩
  case round =>
   obtain ⟨i, rfl, hi, hB7⟩ := hrel
   have B7 := zSg hB7
   clear hB7
   by_cases hlt : i < q.1.length
   ·have hil : (i : Int) < (q.1.length : Int) := by omega
    have GI := zSg (fun s w1 b => GO.out i hlt s w1 b)
    have TGi := zSg (fun k hk w1 b => TG.out i k hlt hk w1 b)
    have TAi := zSg (fun t ht w1 b => TA.out i t hlt ht w1 b)
    have FS := zSg (fun t => zKS hD hlt t)
    go_wp2_with fail
    generalize wr = w7 at *
    go_loopw [10] (fun v wz => ∃ s : Nat, v = .int .i64 (s : Int) /\ 1 <= s /\ s <= top G + 1 /\ Below w7.heap.size w7 wz) (fun v _ => top G + 1 - (intOf v).toNat)
    case atStart => exact ⟨1, rfl, Nat.le_refl _, by omega, .refl _ _⟩
    case round =>
     obtain ⟨s, rfl, hs1, hs2, hB8⟩ := hrel
     have B8 := zSg (Gr.step B7.out hB8)
     have B78 := zSg hB8
     have X8 := zSg (X6.out.went B8.out)
     clear hB8
     obtain ⟨x0, x1, x2, x3⟩ := X8.out.box
     have htop : (top G : Int) = (G.terms.length : Int) + (G.nons.length : Int) := by unfold top; omega
     have htop2 : top G = G.terms.length + G.nons.length := rfl
     by_cases hst : s <= top G
     ·have hsl2 : (s : Int) <= (top G : Int) := by omega
      have HS := zSg (show s <= 240 /\ s + 1 <= top G + 1 from ⟨by omega, by omega⟩)
      go_wp2_with (go_at_call 15; refine (TP.out _ X8.out.below).mono ?_; rintro e w9 ⟨rfl, hb⟩; have C9 := zSg hb; clear hb)
      have X9 := zSg (X8.out.went C9.out)
      have D9 := zSg (Gr.step (Gr.step B56.out B8.out) C9.out)
      have E9 := zSg (Gr.step B8.out C9.out)
      have S9 := zSg (Gr.step B78.out C9.out)
      clear x0 x1 x2 x3 C9 X8 B78 B8
      have GK := zSg (fun w1 b => GI.out (s : Int) w1 b)
      have NK := zSg (fun w1 b => NO.out (s : Int) w1 b)
      by_cases hnt : s <= G.terms.length
      ·have hnb : nonB G (s : Int) = false := zH3.2 (.inl (by omega))
       rw [hnb] at NK
       have AK := zSg (fun w1 b => TAi.out s (by omega) w1 b)
       have fs := FS.out s
       generalize leads (q.2.getD i []) (s : Int) = x at *
       generalize fstA G q i s = y at *
       obtain ⟨y1, y2⟩ := y
       dsimp only at AK fs
       clear hnb
       go_wp2_with fail
       refine (GK.out _ D9.out).mono ?_
       rintro e w10 ⟨rfl, hb⟩
       have X10 := zSg (X9.out.went hb)
       have E10 := zSg (Gr.step E9.out hb)
       have S10 := zSg (Gr.step S9.out hb)
       clear hb D9 E9 S9 X9
       obtain ⟨x0, x1, x2, x3⟩ := X10.out.box
       go_wp2_with fail
       refine (NK.out _ X10.out.below).mono ?_
       rintro e w11 ⟨rfl, hb⟩
       have E11 := zSg (Gr.step B6.out (Gr.step E10.out hb))
       have S11 := zSg (Gr.step S10.out hb)
       have z11 := Z6.out.went (Gr.step E10.out hb)
       clear hb E10 S10 X10 x0 x1 x2 x3
       obtain ⟨z0, z1, z2, z3, z4⟩ := z11
       go_wp2_with fail
       refine (AK.out _ E11.out).mono ?_
       rintro e w12 ⟨rfl, hb⟩
       have S12 := zSg (Gr.step (Gr.step S11.out hb) (boxed w12 (.cells #[.int .i64 y1, .int .i64 y2] 53)))
       clear hb z0 z1 z2 z3 z4
       rcases fs with ⟨rfl, hy⟩ | ⟨n, rfl, hn2, hy⟩
       ·have hy1 : (y1 == 1) = false := by simpa using hy
        have hy2 : ¬ (y1 = 1) := hy
        have hx0 : ¬ ((0 : Int) <= -1) := by omega
        go_wp2_with fail
        go_roundw
        case rel => exact ⟨s + 1, by go_num, by omega, by omega, S12.out⟩
        case measure => first | (simp [intOf]; omega) | omega
       ·simp only [Prod.mk.injEq] at hy
        obtain ⟨rfl, rfl⟩ := hy
        have hx0 : (0 : Int) <= (n : Int) := by omega
        go_wp2_with fail
        go_roundw
        case rel => exact ⟨s + 1, by go_num, by omega, by omega, S12.out⟩
        case measure => first | (simp [intOf]; omega) | omega
      ·have hnb : nonB G (s : Int) = true := zAV.2 (by omega)
       rw [hnb] at NK
       obtain ⟨k, hk⟩ : ∃ k, s = G.terms.length + 1 + k := ⟨s - (G.terms.length + 1), by omega⟩
       have TK := zSg (fun w1 b => TGi.out k (by omega) w1 b)
       rw [← hk] at TK
       clear hk
       generalize leads (q.2.getD i []) (s : Int) = x at *
       clear hnb
       go_wp2_with fail
       refine (GK.out _ D9.out).mono ?_
       rintro e w10 ⟨rfl, hb⟩
       have X10 := zSg (X9.out.went hb)
       have E10 := zSg (Gr.step E9.out hb)
       have S10 := zSg (Gr.step S9.out hb)
       clear hb D9 E9 S9 X9
       obtain ⟨x0, x1, x2, x3⟩ := X10.out.box
       go_wp2_with fail
       refine (NK.out _ X10.out.below).mono ?_
       rintro e w11 ⟨rfl, hb⟩
       have E11 := zSg (Gr.step B6.out (Gr.step E10.out hb))
       have S11 := zSg (Gr.step S10.out hb)
       have z11 := Z6.out.went (Gr.step E10.out hb)
       clear hb E10 S10 X10 x0 x1 x2 x3
       obtain ⟨z0, z1, z2, z3, z4⟩ := z11
       go_wp2_with fail
       refine (TK.out _ E11.out).mono ?_
       rintro e w12 ⟨rfl, hb⟩
       have S12 := zSg (Gr.step S11.out hb)
       clear hb z0 z1 z2 z3 z4
       go_wp2_with fail
       obtain ⟨hs240, hst2⟩ := HS.out
       go_roundw
       case rel => exact ⟨s + 1, by go_num, by omega, hst2, S12.out⟩
       case measure => first | (simp [intOf]; omega) | omega
     ·obtain rfl : s = top G + 1 := by omega
      have hsl2 : ¬ (((top G + 1 : Nat) : Int) <= (top G : Int)) := by omega
      go_wp2_with (go_at_call 15; refine (TP.out _ X8.out.below).mono ?_; rintro e w9 ⟨rfl, hb⟩; have C9 := zSg (Gr.step B8.out hb); clear hb)
      go_roundw
      case rel => exact ⟨i + 1, by go_num, by omega, C9.out⟩
      case measure => first | (simp [intOf]; omega) | omega
   ·obtain rfl : i = q.1.length := by omega
    have X7 := zSg (X6.out.went B7.out)
    go_wp2_with (go_at_call 6; refine (AW.out _ X7.out.below).mono ?_; rintro e w8 ⟨rfl, hb⟩; have HB := zSg (Gr.step X7.out.below hb); clear hb)
    go_ret
    exact ⟨rfl, HB.out⟩
