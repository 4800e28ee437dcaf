/- A part of the proof. -/
import Derived.Deep.CutRange
import Derived.Test.YtnfbjlainpenaaaGreatDoorPk47
import Derived.Test.YtnfbjlainpenaaaGreatDoorPk48
set_option maxHeartbeats 4000000
set_option maxRecDepth 100000
set_option linter.unusedVariables false
set_option linter.unusedSimpArgs false
namespace Go.Proofs.YtnfbjlainpenaaaGreatDoor
namespace Ac
open Go.RowKit Go.Maps
open Gr (Gram Sh GAt gv Bx cell_later boxed drawn)
open Rw (zAF)
open Au
open Rg
open Go.Proofs.YtnfbjlainpenaaaGreatDoor.Sep
attribute [local go_sem] Oper.semAt_some
def set5 (w : World) (p : Nat) (v0 v1 v2 v3 v4 : Value) : World := ((((w.setCell ⟨p, 0, none⟩ v0).setCell ⟨p, 1, none⟩ v1).setCell ⟨p, 2, none⟩ v2).setCell ⟨p, 3, none⟩ v3).setCell ⟨p, 4, none⟩ v4
theorem zLs {w : World} {p : Nat} {u0 u1 u2 u3 u4 : Value} {T : TypeId} (h : w.heap[p]? = some (.cells #[u0, u1, u2, u3, u4] T (0, 0))) (v0 v1 v2 v3 v4 : Value) : (set5 w p v0 v1 v2 v3 v4).heap[p]? = some (.cells #[v0, v1, v2, v3, v4] T (0, 0)) := by
 have e := Rg.zAP (k := 4) (Rg.zAP (k := 3) (Rg.zAP (k := 2) (Rg.zAP (k := 1) (Rg.zAP (k := 0) h v0) v1) v2) v3) v4
 unfold set5
 rw [e]
 rfl
theorem zLr (w : World) (p : Nat) (v0 v1 v2 v3 v4 : Value) : Fr (fun x => x = p) w (set5 w p v0 v1 v2 v3 v4) :=
 (((((Fr.refl (fun x => x = p) w).setCell ⟨p, 0, none⟩ rfl v0).setCell ⟨p, 1, none⟩ rfl v1).setCell ⟨p, 2, none⟩ rfl v2).setCell ⟨p, 3, none⟩ rfl v3).setCell ⟨p, 4, none⟩ rfl v4
theorem zG9 {w wa : World} {cs : Array Value} {T : TypeId} (h : Below (w.alloc (.cells cs T)).drew.heap.size (w.alloc (.cells cs T)).drew wa) : wa.heap[w.heap.size]? = some (.cells cs T (0, 0)) :=
 (h.block w.heap.size (by change w.heap.size < (w.alloc (.cells cs T)).heap.size; rw [World.size_alloc]; exact Nat.lt_succ_self _)).trans (World.alloc_heap_new w _)
theorem zIa {q : Nat} {W X : World} (h : Below W.heap.size W X) (hq : W.heap.size <= q) (a b c d e : Value) : Below W.heap.size W (((((X.setCell ⟨q, 0, none⟩ a).setCell ⟨q, 1, none⟩ b).setCell ⟨q, 2, none⟩ c).setCell ⟨q, 3, none⟩ d).setCell ⟨q, 4, none⟩ e) :=
 h.trans ((zLr X q a b c d e).below (fun x hx => by omega) h.size)
def put6 (w : World) (p : Nat) (v0 v1 v2 v3 v4 er : Value) : World := (set5 w p v0 v1 v2 v3 v4).setCell ⟨p + 1, 0, none⟩ er
theorem zEG {w : World} {p : Nat} {u0 u1 u2 u3 u4 u5 : Value} {T U : TypeId} (h : w.heap[p]? = some (.cells #[u0, u1, u2, u3, u4] T (0, 0))) (h' : w.heap[p + 1]? = some (.cells #[u5] U (0, 0))) (v0 v1 v2 v3 v4 er : Value) :
  (put6 w p v0 v1 v2 v3 v4 er).heap[p]? = some (.cells #[v0, v1, v2, v3, v4] T (0, 0)) /\ (put6 w p v0 v1 v2 v3 v4 er).heap[p + 1]? = some (.cells #[er] U (0, 0)) /\ Fr (fun x => x = p \/ x = p + 1) w (put6 w p v0 v1 v2 v3 v4 er) := by
 have h5 := zLs h v0 v1 v2 v3 v4
 have f5 := zLr w p v0 v1 v2 v3 v4
 have h6 := zAO f5 h' (by omega)
 unfold put6
 refine ⟨?_, ?_, (f5.mono fun x e => .inl e).setCell ⟨p + 1, 0, none⟩ (.inr rfl) er⟩
 ·exact (zAO ((Fr.refl (fun x => x = p + 1) _).setCell ⟨p + 1, 0, none⟩ rfl er) h5 (by omega))
 ·rw [Rg.zAP h6 (k := 0) er]
  rfl
theorem zFV {fn : Func} {p u : Tmp} {ty ty2 : TypeId} (h : fn.results = #[.cell p ty, .cell u ty2]) (tmps : Array Value) (P : Program) (w : World) :
  (results fn tmps).run P w = ((asAddr (tmps.getD p undef)).run P w).andThen fun a w₁ => ((loadVar ty a).run P w₁).andThen fun v w₂ => ((asAddr (tmps.getD u undef)).run P w₂).andThen fun b w₃ => ((loadVar ty2 b).run P w₃).andThen fun x w₄ => .ok (.tuple #[v, x]) w₄ := by
 simp only [results, h]
 simp [Sem.run_bind, Result.andThen]
theorem zI3 {w : World} {p : Nat} {er : Int} (hc : w.cell? ⟨p, 0, none⟩ = some (.int .i64 er)) : (loadVar 29 ⟨p, 0, none⟩).run Tryz.prog w = .ok (.int .i64 er) w := by
 simp [go_sem, hc, Result.andThen]
theorem zDK {w : World} {p : Nat} {cs : Array Value} {er : Int} {T U : TypeId} (tmps : Array Value) (h2 : tmps.getD 2 undef = .pointer (some ⟨p, 0, none⟩)) (h3 : tmps.getD 3 undef = .pointer (some ⟨p + 1, 0, none⟩)) (hg : w.heap[p]? = some (.cells cs T (0, 0))) (hs : cs.size = 5) (hg' : w.heap[p + 1]? = some (.cells #[.int .i64 er] U (0, 0))) :
  (results Tryz.f10 tmps).run Tryz.prog w = .ok (.tuple #[.agg cs, .int .i64 er]) w := by
 rw [zFV (p := 2) (ty := 35) (u := 3) (ty2 := 29) rfl, h2, h3]
 have hr := run_loadVar_row (P := Tryz.prog) w p T 35 cs (0, 0) _ hg Tryz.underlying35 rfl (by rw [hs]; kernel_rfl)
 have he := zI3 (zAA hg' (k := 0) (by simp))
 have ha : ∀ a, (asAddr (.pointer (some a))).run Tryz.prog w = .ok a w := fun a => by simp [asAddr]
 rw [ha]
 simp only [Result.andThen_ok]
 rw [hr]
 simp only [Result.andThen_ok]
 rw [ha]
 simp only [Result.andThen_ok]
 rw [he]
 rfl
def ofI (k : Nat) (S' : Nat -> Prop) (W : World) : Prop := k = 0 /\ S' = (fun _ => False)
def ofX (p : Nat) (c : Code) (k : Nat) (S' : Nat -> Prop) (W : World) : Prop := c = .ret /\ 0 < k /\ S' = (fun x => x = p \/ x = p + 1) /\ W.heap[p]? = some (.cells zCX 35 (0, 0)) /\ W.heap[p + 1]? = some (.cells #[.int .i64 12] 29 (0, 0))
theorem zLQ (B : Nat) : Holds B ofI := fun _ _ _ _ _ h _ _ _ => h
theorem zLS (B p : Nat) (c : Code) : Holds B (ofX p c) := by
 rintro k S' T A A' ⟨rfl, h0, rfl, h1, h2⟩ hi hf hT
 exact ⟨rfl, h0, rfl, zAO hf h1 fun h => (hT _ h).2 (.inl rfl), zAO hf h2 fun h => (hT _ h).2 (.inr rfl)⟩
theorem zG3 : (Tryz.prog.info? 63).map (fun i => (i.zero, i.size, i.bytes)) = some (some (.slice none 0 0), 1, 24) := by kernel_rfl
theorem zG4 : (Tryz.prog.info? 55).map (fun i => (i.zero, i.size, i.bytes)) = some (some (.slice none 0 0), 1, 24) := by kernel_rfl
theorem zDS (h : Sh) (G : Gram) (w : World) (k : GAt h G w) (htab : Bt.Tab w) :
  Calls Tryz.prog 10 #[gv h G] w (OfGave G w) := by
 have X := zSg (((Bx.start h G w 25).alloc (.cells zCX 35)).alloc (.cells #[.int .i64 0] 29))
 have RD := zSg (fun w1 (b : Below w.heap.size w w1) => zDj h G w1 (k.went b) (htab.below b htab.pos))
 have KG := zSg (fun w1 (b : Below w.heap.size w w1) => k.went b)
 have Z := zSg (show (((w.alloc (.cells #[.slice h.a1 G.terms.length h.c1, .slice h.a2 G.nons.length h.c2, .slice h.a3 G.rules.length h.c3, .int .i64 G.start] 25)).alloc (.cells zCX 35)).alloc (.cells #[.int .i64 0] 29)).heap[w.heap.size + 1]? = some (.cells zCX 35 (0, 0)) /\
   (((w.alloc (.cells #[.slice h.a1 G.terms.length h.c1, .slice h.a2 G.nons.length h.c2, .slice h.a3 G.rules.length h.c3, .int .i64 G.start] 25)).alloc (.cells zCX 35)).alloc (.cells #[.int .i64 0] 29)).heap[w.heap.size + 1 + 1]? = some (.cells #[.int .i64 0] 29 (0, 0)) from by
  have h1 := World.alloc_heap_new (w.alloc (.cells #[.slice h.a1 G.terms.length h.c1, .slice h.a2 G.nons.length h.c2, .slice h.a3 G.rules.length h.c3, .int .i64 G.start] 25)) (.cells zCX 35)
  have h2 := World.alloc_heap_new ((w.alloc (.cells #[.slice h.a1 G.terms.length h.c1, .slice h.a2 G.nons.length h.c2, .slice h.a3 G.rules.length h.c3, .int .i64 G.start] 25)).alloc (.cells zCX 35)) (.cells #[.int .i64 0] 29)
  rw [World.size_alloc] at h1 h2
  rw [World.size_alloc] at h2
  exact ⟨(Below.heap_alloc _ _ _ (by simp)).trans h1, h2⟩)
 clear k htab
 unfold gv at *
 unfold zCX at X Z
 refine (callsIn_wide (n := 9)).1 ?_
 refine callsIn_of_wp_marks Tryz.func10 rfl trivial ?_ rfl
 refine wpIn_wide.2 ?_
 simp only [Tryz.ntmps10, List.size_toArray, List.length_cons, List.length_nil, Nat.reduceAdd, Nat.reduceSub, Array.replicate_succ, Array.replicate_zero, List.push_toArray, List.append_toArray, List.nil_append, List.cons_append]
 obtain ⟨x0, x1, x2, x3⟩ := X.out.box
 go_wp2_with fail
 refine (RD.out _ X.out.below).mono ?_
 intro e w1 hR
 rcases hR with ⟨er, h0, hB, rfl, hb1⟩ | ⟨m, q, rfl, rfl, hB, hD, rfl, hb1⟩
 ·have hne : (er != 0) = true := by simpa using h0
  have EB := zSg (Gr.step X.out.below hb1)
  have b2 := Gr.step hb1 (boxed w1 (.cells #[.slice none 0 0, .slice none 0 0, .slice none 0 0, .int .i64 0, .slice none 0 0, .slice none 0 0] 69))
  have Z1 := zSg (And.intro ((b2.block _ (Array.getElem?_eq_some_iff.1 Z.out.1).1).trans Z.out.1) ((b2.block _ (Array.getElem?_eq_some_iff.1 Z.out.2).1).trans Z.out.2))
  have y0 := zAA Z1.out.1 (k := 0) (by simp)
  have y1 := zAA Z1.out.1 (k := 1) (by simp)
  have y2 := zAA Z1.out.1 (k := 2) (by simp)
  have y3 := zAA Z1.out.1 (k := 3) (by simp)
  have y4 := zAA Z1.out.1 (k := 4) (by simp)
  have y5 := zAA Z1.out.2 (k := 0) (by simp)
  have f0 := zAM (k := 0) Z1.out.1
  have f1 := zAM (k := 1) Z1.out.1
  have f2 := zAM (k := 2) Z1.out.1
  have f3 := zAM (k := 3) Z1.out.1
  have f4 := zAM (k := 4) Z1.out.1
  have f5 := zAM (k := 0) Z1.out.2
  have EE := zSg (zEG Z1.out.1 Z1.out.2 (.slice none 0 0) (.int .i64 0) (.int .i64 0) (.slice none 0 0) (.slice none 0 0) (.int .i64 er))
  have hs0 := EB.out.size
  have hsz : w.heap.size + 1 < (w1.alloc (.cells #[.slice none 0 0, .slice none 0 0, .slice none 0 0, .int .i64 0, .slice none 0 0, .slice none 0 0] 69)).heap.size := (Array.getElem?_eq_some_iff.1 Z1.out.1).1
  unfold zC9
  unfold put6 set5 at EE
  clear X x0 x1 x2 x3 hb1 b2 Z
  go_wp2
  refine ⟨_, zDK _ rfl rfl EE.out.1 rfl EE.out.2.1, ?_⟩
  exact .no (.bad hB h0) rfl ((EB.out.alloc EB.out.size _).trans (EE.out.2.2.below (fun x hx => by omega) (Nat.le_trans EB.out.size (boxed w1 (.cells #[.slice none 0 0, .slice none 0 0, .slice none 0 0, .int .i64 0, .slice none 0 0, .slice none 0 0] 69)).size)))
 ·clear RD
  have X1 := zSg (X.out.went hb1)
  have DD := zSg hD
  have B12 := zSg (boxed w1 (.cells (amc m) 69))
  have Z1 := zSg (And.intro ((hb1.block _ (Array.getElem?_eq_some_iff.1 Z.out.1).1).trans Z.out.1) ((hb1.block _ (Array.getElem?_eq_some_iff.1 Z.out.2).1).trans Z.out.2))
  have hp1 : w.heap.size + 1 + 1 < w1.heap.size := (Array.getElem?_eq_some_iff.1 Z1.out.2).1
  have H2 := zSg (World.alloc_heap_new w1 (.cells (amc m) 69))
  have hs2 : (w1.alloc (.cells (amc m) 69)).heap.size = w1.heap.size + 1 := World.size_alloc _ _
  have CL := zSg (show ∀ w3, Calls Tryz.prog 25 #[.agg #[.slice m.h.a1 m.G.terms.length m.h.c1, .slice m.h.a2 m.G.nons.length m.h.c2, .slice m.h.a3 m.G.rules.length m.h.c3, .int .i64 m.G.start, .slice m.aS m.nS m.cS, .slice m.aL m.nL m.cL]] w3 _ from fun w3 => zDt m w3)
  obtain ⟨z0, z1, z2, z3, z4, z5⟩ := zAS H2.out
  clear x0 x1 x2 x3 X hb1 hD Z
  unfold amc at H2 B12 z0 z1 z2 z3 z4 z5 hs2
  unfold amc
  have HS2 := zSg hs2
  clear hs2
  go_wp2_with fail
  generalize hw2 : w1.alloc (.cells #[.slice m.h.a1 m.G.terms.length m.h.c1, .slice m.h.a2 m.G.nons.length m.h.c2, .slice m.h.a3 m.G.rules.length m.h.c3, .int .i64 m.G.start, .slice m.aS m.nS m.cS, .slice m.aL m.nL m.cL] 69) = w2 at *
  clear hw2 z0 z1 z2 z3 z4 z5
  refine (CL.out w2).mono ?_
  rintro e w4 ⟨rfl, hw4⟩
  have B24 := zSg (show Below w2.heap.size w2 w4 from by rw [hw4]; exact boxed _ _)
  have h4 : w4.heap[w2.heap.size]? = some (.cells (amc m) 69 (0, 0)) := by rw [hw4]; exact World.alloc_heap_new _ _
  have h4s : w4.heap.size = w2.heap.size + 1 := by rw [hw4]; exact World.size_alloc _ _
  clear hw4
  have B14 := zSg (Gr.step B12.out B24.out)
  have HY := zSg (zB7 m q w1 w4 DD.out B14.out w2.heap.size h4)
  have hs2 := HS2.out
  have P4 := zSg ((B24.out.block w1.heap.size (by omega)).trans H2.out)
  have Z4 := zSg (And.intro ((B14.out.block _ (by omega)).trans Z1.out.1) ((B14.out.block _ hp1).trans Z1.out.2))
  have OI := zSg (show Inn (oCl w1 w2.heap.size) w4 from by
   rintro x (hx | rfl)
   ·omega
   ·omega)
  have HX := zSg (show Inn (fun x => x = w.heap.size + 1 \/ x = w.heap.size + 1 + 1) w4 from by
   rintro x (rfl | rfl) <;> omega)
  have hbc : w1.heap.size + 2 = w4.heap.size := by omega
  have HS := zSg (And.intro hs2 h4s)
  clear hs2 h4s
  go_wp2_with fail
  refine wpIn_wide.1 (zCC (n := 9) (gf := 56) (lb := #[.pointer (some ⟨w2.heap.size, 0, none⟩)]) rfl (enters_of Tryz.func56 (by kernel_rfl) rfl)
   (encs := encC m q) HY.out (fun _ => rfl) ofI (ofX (w.heap.size + 1)) (zLQ _) (zLS _ _) (fun _ => False) (fun x => x = w.heap.size + 1 \/ x = w.heap.size + 1 + 1) (fun _ h => h.elim) OI.out (fun _ h => h.elim) HX.out ⟨rfl, rfl⟩ ?round ?done ?stop)
  case stop =>
   rintro c k S' W hk ⟨rfl, h0, rfl, h1, h2⟩ hin he hf hD hnD
   obtain ⟨hs2, h4s⟩ := HS.out
   have hcl : zAQ m.G q ≠ [] := by
    intro e
    rw [e] at hk
    simp at hk
    omega
   have hsW := hf.size
   have hs1 := X1.out.below.size
   have EN := zSg (show ∀ w', Fr (fun x => x ∈ [w4.heap.size]) W w' -> w'.heap[w.heap.size + 1]? = some (.cells zCX 35 (0, 0)) /\ w'.heap[w.heap.size + 1 + 1]? = some (.cells #[.int .i64 12] 29 (0, 0)) /\ Below w.heap.size w w' from fun w' hf' => by
    refine ⟨zAO hf' h1 ?_, zAO hf' h2 ?_, ?_⟩
    ·rw [List.mem_singleton]
     omega
    ·rw [List.mem_singleton]
     omega
    ·refine X1.out.below.trans ((B14.out.mono hs1).trans ((hf.below (m := w.heap.size) ?_ ?_).trans (hf'.below (m := w.heap.size) ?_ ?_)))
     ·rintro x (h | rfl | rfl)
      ·exact h.elim
      ·omega
      ·omega
     ·omega
     ·intro x hx
      rw [List.mem_singleton] at hx
      omega
     ·omega)
   have LM := zSg (show ∀ (fn : Func) (tmps : Array Value) (R : Ending -> World -> Prop), (∀ w', Fr (fun x => x ∈ [w4.heap.size]) W w' -> ∃ v, (results fn tmps).run Tryz.prog w' = .ok v w' /\ R (.returned v) w') -> LeavesInM Fence.wide 9 Tryz.prog fn tmps R [{ target := .collected w4.heap.size, args := #[] }] .returning W from
    fun fn tmps R hR => zAi [w4.heap.size] W (by simp) (fun D hD' => by rw [List.mem_singleton] at hD'; subst hD'; exact hD) hR)
   clear h1 h2 hin he hf hD hnD hs2 h4s hsW hbc hp1 hs1
   gi_wp2
   refine LM.out _ _ _ ?_
   intro w' hf
   obtain ⟨e1, e2, e3⟩ := EN.out w' hf
   refine ⟨_, zDK _ rfl rfl e1 rfl e2, ?_⟩
   exact .no (.clash DD.out.hv DD.out.done DD.out.len hB hcl) rfl e3
  case round =>
   rintro l k S' W hk hl hl2 hnl ⟨rfl, rfl⟩ hin he hf
   have k1 := zAO hf Z4.out.1 (fun h => h)
   have k2 := zAO hf Z4.out.2 (fun h => h)
   have hl4 : w.heap.size + 1 + 1 < w4.heap.size := (Array.getElem?_eq_some_iff.1 Z4.out.2).1
   unfold encC
   gi_wp2
   refine ⟨.refl _ _, fun w5 h5 hs5 => ?_⟩
   have Z1 := zSg (And.intro (zAO h5 k1 (by omega)) (zAO h5 k2 (by omega)))
   have y0 := zAA Z1.out.1 (k := 0) (by simp)
   have y1 := zAA Z1.out.1 (k := 1) (by simp)
   have y2 := zAA Z1.out.1 (k := 2) (by simp)
   have y3 := zAA Z1.out.1 (k := 3) (by simp)
   have y4 := zAA Z1.out.1 (k := 4) (by simp)
   have y5 := zAA Z1.out.2 (k := 0) (by simp)
   have f0 := zAM (k := 0) Z1.out.1
   have f1 := zAM (k := 1) Z1.out.1
   have f2 := zAM (k := 2) Z1.out.1
   have f3 := zAM (k := 3) Z1.out.1
   have f4 := zAM (k := 4) Z1.out.1
   have f5 := zAM (k := 0) Z1.out.2
   have EE := zSg (zEG Z1.out.1 Z1.out.2 (.slice none 0 0) (.int .i64 0) (.int .i64 0) (.slice none 0 0) (.slice none 0 0) (.int .i64 12))
   have hsz : w.heap.size + 1 + 1 < w5.heap.size := (Array.getElem?_eq_some_iff.1 Z1.out.2).1
   unfold put6 set5 at EE
   have HZ := zSg hsz
   clear k1 k2 hin he hf h5 hs5 hsz hl4 hbc hp1 hl hl2
   gi_wp2
   refine ⟨fun x => x = w.heap.size + 1 \/ x = w.heap.size + 1 + 1, fun x h => .inl (.inr h), EE.out.2.2.mono (fun x h => .inl (.inr h)), ?_, rfl, by omega, rfl, EE.out.1, EE.out.2.1⟩
   have h1 := HZ.out
   have h2 := EE.out.2.2.size
   rintro x (rfl | rfl)
   ·omega
   ·omega
  case done =>
   rintro S' W ⟨hn, rfl⟩ hin he hf hD hnD
   obtain ⟨hs3, h4s⟩ := HS.out
   have hsW := hf.size
   have hcl : zAQ m.G q = [] := List.eq_nil_of_length_eq_zero hn
   have hs1 := X1.out.below.size
   have BW4 := zSg (hf.below (m := w4.heap.size) (fun x hx => hx.elim) (Nat.le_refl _))
   have B1W := zSg (B14.out.trans (BW4.out.mono (Nat.le_trans B14.out.size (Nat.le_refl _))))
   have XW := zSg (X1.out.went B1W.out)
   obtain ⟨x0, x1, x2, x3⟩ := XW.out.box
   have PW := (hf.block w1.heap.size (by omega) (fun e => e)).trans P4.out
   obtain ⟨z0, z1, z2, z3, z4, z5⟩ := zAS PW
   have hrl : m.G.rules.length <= 300 := (Fi.zAo DD.out.hv).r
   have RU := zSg (show ∀ w', Below W.heap.size W w' -> Calls Tryz.prog 28 #[.agg #[.slice m.h.a1 m.G.terms.length m.h.c1, .slice m.h.a2 m.G.nons.length m.h.c2, .slice m.h.a3 m.G.rules.length m.h.c3, .int .i64 m.G.start, .slice m.aS m.nS m.cS, .slice m.aL m.nL m.cL]] w' (zFe m.G w') from fun w' b => zLp m w' (KG.out _ (XW.out.below.trans (b.mono XW.out.below.size))) hrl)
   have HQ := zSg (show ∀ w', Below W.heap.size W w' -> w'.cell? ⟨w.heap.size, 0, none⟩ = some (.slice m.h.a1 m.G.terms.length m.h.c1) /\ w'.cell? ⟨w.heap.size, 1, none⟩ = some (.slice m.h.a2 m.G.nons.length m.h.c2) /\ w'.cell? ⟨w1.heap.size, 0, none⟩ = some (.slice m.h.a1 m.G.terms.length m.h.c1) /\ w'.cell? ⟨w1.heap.size, 1, none⟩ = some (.slice m.h.a2 m.G.nons.length m.h.c2) /\ w'.cell? ⟨w1.heap.size, 2, none⟩ = some (.slice m.h.a3 m.G.rules.length m.h.c3) /\ w'.cell? ⟨w1.heap.size, 3, none⟩ = some (.int .i64 m.G.start) /\ w'.cell? ⟨w1.heap.size, 4, none⟩ = some (.slice m.aS m.nS m.cS) /\ w'.cell? ⟨w1.heap.size, 5, none⟩ = some (.slice m.aL m.nL m.cL) /\ Below W.heap.size W w' from
    fun w' b => ⟨cell_later b x0, cell_later b x1, cell_later b z0, cell_later b z1, cell_later b z2, cell_later b z3, cell_later b z4, cell_later b z5, b⟩)
   have hbd := Gr.drawn W
   have ZW := zSg (And.intro (zAO hf Z4.out.1 (fun h => h)) (zAO hf Z4.out.2 (fun h => h)))
   have DW := zSg hD
   have PP := zSg PW
   have HZ := zSg (show w4.heap.size < W.heap.size /\ w1.heap.size + 2 = w4.heap.size /\ w.heap.size + 1 + 1 < w1.heap.size from ⟨(Array.getElem?_eq_some_iff.1 hD).1, hbc, hp1⟩)
   clear hin he hf hD hnD hn hs3 h4s hsW hs1 hbc hp1 PW OI HX HY Z4 P4 H2 B12 B24 h4 Z1 HS X1
   gi_wp2_with fail
   go_wp2_with fail
   go_cut [6] from 21 (fun v wx => ∃ (p : Nat) (aR : Option Addr) (cR : Nat), v = .pointer (some ⟨p, 0, none⟩) /\ OfB m.G W aR cR p wx)
   case first =>
    go_region_held3 (fun w' => w'.cell? ⟨w.heap.size, 0, none⟩ = some (.slice m.h.a1 m.G.terms.length m.h.c1) /\ w'.cell? ⟨w.heap.size, 1, none⟩ = some (.slice m.h.a2 m.G.nons.length m.h.c2) /\ w'.cell? ⟨w1.heap.size, 0, none⟩ = some (.slice m.h.a1 m.G.terms.length m.h.c1) /\ w'.cell? ⟨w1.heap.size, 1, none⟩ = some (.slice m.h.a2 m.G.nons.length m.h.c2) /\ w'.cell? ⟨w1.heap.size, 2, none⟩ = some (.slice m.h.a3 m.G.rules.length m.h.c3) /\ w'.cell? ⟨w1.heap.size, 3, none⟩ = some (.int .i64 m.G.start) /\ w'.cell? ⟨w1.heap.size, 4, none⟩ = some (.slice m.aS m.nS m.cS) /\ w'.cell? ⟨w1.heap.size, 5, none⟩ = some (.slice m.aL m.nL m.cL) /\ Below W.heap.size W w')
     (exact HQ.out _ (by with_reducible first | assumption | exact Gr.step (by assumption) (boxed _ _) | exact zIa (by assumption) (Nat.le_refl _) _ _ _ _ _))
     (first
      | (go_at_call 28; ((with_reducible refine (RU.out _ (by with_reducible first | assumption | exact Gr.step (by assumption) (boxed _ _))).mono ?_)); rintro e we ⟨aR, cR, rfl, hru, hbe, hcp⟩; have kE : Below W.heap.size W we := Gr.step (by with_reducible first | assumption | exact Gr.step (by assumption) (boxed _ _)) hbe; have RE := zSg hru; have BE := zSg hbe; clear hru hbe; first
       | ((with_reducible have KB := zSg (zG9 BE.out)); have y0 := zAA KB.out (k := 0) (by simp); have y1 := zAA KB.out (k := 1) (by simp); have y2 := zAA KB.out (k := 2) (by simp); have y3 := zAA KB.out (k := 3) (by simp); have y4 := zAA KB.out (k := 4) (by simp); have f0 := zAM (k := 0) KB.out; have f1 := zAM (k := 1) KB.out; have f2 := zAM (k := 2) KB.out; have f3 := zAM (k := 3) KB.out; have f4 := zAM (k := 4) KB.out)
       | skip)
      | fail)
    ·have OB := zSg (show OfB m.G W aR cR we.heap.size _ from OfB.after kE RE.out (Nat.le_refl _) hcp)
     go_wp2_with fail
     go_meet
     case rel => exact ⟨_, _, _, rfl, OB.out⟩
    ·have OB := zSg (show OfB m.G W aR cR W.heap.size _ from OfB.ahead kE (Nat.le_refl _) KB.out RE.out (by change W.heap.size < (W.alloc _).heap.size; rw [World.size_alloc]; exact Nat.lt_succ_self _) hcp)
     go_wp2_with fail
     go_meet
     case rel => exact ⟨_, _, _, rfl, OB.out⟩
   case rest =>
    obtain ⟨p, aR, cR, rfl, hOB⟩ := hcut
    have OB := zSg hOB
    obtain ⟨x0, x1, z0, z1, z2, z3, z4, z5, _⟩ := HQ.out _ hOB.below
    clear hOB RU
    generalize wc = w5 at *
    have T0 := zSg (OB.out.start (q := q))
    have HN := zSg (show m.nS = q.1.length from DD.out.nS.trans (zAc DD.out.done.all))
    obtain ⟨i1, hj1, hy0, hy1, hy2⟩ := info_parts zG3
    obtain ⟨i2, hj2, hx0, hx1, hx2⟩ := info_parts zG4
    have KS := zSg (show ∀ w', Fr (fun x => x = p) w5 w' -> w'.heap[w1.heap.size]? = some (.cells (amc m) 69 (0, 0)) from fun w' f => by
     obtain ⟨sz1, sz2, sz3⟩ := HZ.out
     have hlo := OB.out.lo
     exact zAO f ((OB.out.below.block w1.heap.size (by omega)).trans PP.out) (by omega))
    have DX := zSg (show ∀ w', Fr (fun x => x = p) w5 w' -> Dat m q w' from fun w' f => by
     have hlo := OB.out.lo
     exact (DD.out.went B1W.out).went (OB.out.below.trans (f.below (fun x hx => by omega) OB.out.below.size)))
    go_wp2_with fail
    go_loopw [33] (fun v wr => ∃ (k : Nat) (BA BG : Nat -> Nat) (aa : Option Addr) (ca : Nat) (ag : Option Addr) (cg : Nat), v = .int .i64 (k : Int) /\ k <= q.1.length /\ TbI m.G q aR cR p w5 k k BA BG aa ca ag cg wr) (fun v _ => q.1.length - (intOf v).toNat)
    case atStart => exact ⟨0, _, _, _, _, _, _, rfl, Nat.zero_le _, T0.out⟩
    case round =>
     obtain ⟨k, BA, BG, aa, ca, ag, cg, rfl, hk, hR⟩ := hrel
     have R := zSg hR
     clear hR T0
     by_cases hlt : k < q.1.length
     ·have hkl : (k : Int) < (m.nS : Int) := by rw [HN.out]; omega
      have hql := DD.out.len
      have hcl1 : ∀ t, t < m.G.terms.length + 1 -> (actL m.G q k t).length <= 1 := fun t ht => zIj hcl hlt ht
      have RO := zSg (show ∀ w', Fr (fun x => x = p) w5 w' -> Calls Tryz.prog 29 #[.agg #[.slice m.h.a1 m.G.terms.length m.h.c1, .slice m.h.a2 m.G.nons.length m.h.c2, .slice m.h.a3 m.G.rules.length m.h.c3, .int .i64 m.G.start, .slice m.aS m.nS m.cS, .slice m.aL m.nL m.cL], .int .i64 (k : Int)] w' (zGg m.G q k w') from fun w' f => zQi m q w' (DX.out w' f) k hlt hcl1)
      have fD := zSg (show Fr (fun x => x = p) w5 wr.drew from R.out.fr.trans (.of_below (drawn wr)) fun x hx => .inl hx)
      clear hcl1 x0 x1 z0 z1 z2 z3 z4 z5
      have c3 := zAA R.out.box (k := 3) (by simp [tbc])
      unfold tbc at c3
      go_wp2_with fail
      go_cut [] from 34 to 52 (fun wx => ∃ (BA' : Nat -> Nat) (aa' : Option Addr) (ca' : Nat), TbI m.G q aR cR p w5 (k + 1) k BA' BG aa' ca' ag cg wx)
      case first =>
       refine wp_region_noPanic ?_
       refine wp_region_held_drew (S := fun w' => w'.heap[w1.heap.size]? = some (.cells (amc m) 69 (0, 0))) (by kernel_rfl) (KS.out _ fD.out) (fun hHeld => ?_)
       refine wpAnyH_take (i := 0) (oi := _) (v := .pointer (some ⟨p, 3, none⟩)) rfl (by kernel_rfl) (by kernel_rfl) (by kernel_rfl) (fun _ _ _ h => h) (Or.inl ⟨by rfl, fun w6 hs6 => by obtain ⟨s0, s1, s2, s3, s4, s5⟩ := zAS hs6; go_simp⟩) (by assumption) ?_
       change wpAnyH _ _ _ _ _ _ _ (Act.put _ (some 36) _) _
       simp only [Act.put, List.setIfInBounds_toArray, List.set_cons_zero, List.set_cons_succ]
       refine wpAnyH_take (i := 2) (oi := _) (v := .agg #[.slice m.h.a1 m.G.terms.length m.h.c1, .slice m.h.a2 m.G.nons.length m.h.c2, .slice m.h.a3 m.G.rules.length m.h.c3, .int .i64 m.G.start, .slice m.aS m.nS m.cS, .slice m.aL m.nL m.cL]) rfl (by kernel_rfl) (by kernel_rfl) (by kernel_rfl) (fun _ _ _ h => h) (Or.inl ⟨by rfl, fun w6 hs6 => by obtain ⟨s0, s1, s2, s3, s4, s5⟩ := zAS hs6; go_simp⟩) (by assumption) ?_
       change wpAnyH _ _ _ _ _ _ _ (Act.put _ (some 38) _) _
       simp only [Act.put, List.setIfInBounds_toArray, List.set_cons_zero, List.set_cons_succ]
       refine wpAnyH_take (i := 3) (oi := _) (v := .int .i64 (k : Int)) rfl (by kernel_rfl) (by kernel_rfl) (by kernel_rfl) (fun _ _ _ h => h) (Or.inl ⟨by rfl, fun w6 hs6 => by obtain ⟨s0, s1, s2, s3, s4, s5⟩ := zAS hs6; go_simp⟩) (by assumption) ?_
       change wpAnyH _ _ _ _ _ _ _ (Act.put _ (some 39) _) _
       simp only [Act.put, List.setIfInBounds_toArray, List.set_cons_zero, List.set_cons_succ]
       refine wpAnyH_ready (rs := [1, 4]) (by kernel_rfl) (by simp) ?_
       refine AllReadyH.cons (o := _) rfl (fun K' hK' => ?_) (AllReadyH.cons (o := _) rfl (fun K' hK' => ?_) AllReadyH.nil)
       ·go_simp
        refine hK'.out _ _ (KS.out _ fD.out) (fun hHeld => ?_)
        clear hK'
        refine wpAnyH_ready (rs := [4]) (by kernel_rfl) (by simp) ?_
        refine AllReadyH.cons (o := _) rfl (fun K' hK' => ?_) AllReadyH.nil
        go_simp
        refine (RO.out _ (fD.out)).mono ?_
        rintro e wa ⟨b, rfl, hlo, hF, hba⟩
        have RA := zSg (R.out.went (Gr.step (drawn wr) hba))
        have hca := zAA RA.out.box (k := 3) (by simp [tbc])
        unfold tbc at hca
        have RB := zSg (RA.out.went (boxed wa (.cells #[.slice (some ⟨b, 0, none⟩) (m.G.terms.length + 1) (m.G.terms.length + 1)] 63)))
        have hcb := zAA RB.out.box (k := 3) (by simp [tbc])
        unfold tbc at hcb
        have ON := zSg (Lk.zBv 63 w5.heap.size wa.heap.size (.slice (some ⟨b, 0, none⟩) (m.G.terms.length + 1) (m.G.terms.length + 1)) wa rfl RA.out.fr.size)
        have FF := zSg (hF.went (boxed wa (.cells #[.slice (some ⟨b, 0, none⟩) (m.G.terms.length + 1) (m.G.terms.length + 1)] 63)))
        have hlo5 : w5.heap.size <= b := Nat.le_trans R.out.fr.size hlo
        clear hF hba hlo hHeld
        refine hK'.out _ _ (KS.out _ RA.out.fr) (fun hHeld => ?_)
        clear hK'
        refine wpAnyH_ready (rs := [5]) (by kernel_rfl) (by simp) ?_
        refine AllReadyH.cons (o := _) rfl (fun K' hK' => ?_) AllReadyH.nil
        go_simp
        refine hK'.out _ _ (KS.out _ RB.out.fr) (fun hHeld => ?_)
        clear hK'
        refine wpAnyH_ready (rs := [6]) (by kernel_rfl) (by simp) ?_
        refine AllReadyH.cons (o := _) rfl (fun K' hK' => ?_) AllReadyH.nil
        refine zAF _ (by rfl) _ _ 32 (by rfl) w5.heap.size 63 i1 (.slice none 0 0) 1 24 Tryz.underlying32 hj1 hy0 hy1 hy2 rfl (by decide) (.slice aa k ca) k _ (by rfl) RB.out.acts.row w5.heap.size (.slice (some ⟨wa.heap.size, 0, none⟩) 1 1) 1 [.slice (some ⟨b, 0, none⟩) (m.G.terms.length + 1) (m.G.terms.length + 1)] (by rfl) ON.out (by simp [Value.oneCell']) (by unfold maxLen; omega) (by omega) RB.out.fr.size ?_
        intro v9 w9 hown9 hg9 hloc9
        obtain ⟨a9, c9, rfl⟩ := Rw.zAG hown9
        have MD := zSg (RB.out.midA hg9)
        have RN := zSg (RB.out.nextA FF.out hlo5 rfl hown9 hg9)
        have hcd := zAA MD.out.2 (k := 3) (by simp [tbc])
        unfold tbc at hcd
        have fd : w9.frozen? ⟨p, 3, none⟩ = false := zAM MD.out.2
        clear hown9 hg9 hloc9
        refine hK'.out _ _ (KS.out _ MD.out.1) (fun hHeld => ?_)
        clear hK'
        simp only [Act.put, List.setIfInBounds_toArray, List.set_cons_zero, List.set_cons_succ]
        refine wpAnyH_take (i := 7) (oi := _) (v := .pointer (some ⟨p, 3, none⟩)) rfl (by kernel_rfl) (by kernel_rfl) (by kernel_rfl) (fun _ _ _ h => h) (Or.inl ⟨by rfl, fun w6 hs6 => by obtain ⟨s0, s1, s2, s3, s4, s5⟩ := zAS hs6; go_simp⟩) (by assumption) ?_
        change wpAnyH _ _ _ _ _ _ _ (Act.put _ (some 43) _) _
        simp only [Act.put, List.setIfInBounds_toArray, List.set_cons_zero, List.set_cons_succ]
        refine wpAnyH_ready (rs := [8]) (by kernel_rfl) (by simp) ?_
        refine AllReadyH.cons (o := _) rfl (fun K' hK' => ?_) AllReadyH.nil
        go_simp
        refine hK'.out _ _ (KS.out _ RN.out.fr) (fun hHeld => ?_)
        clear hK' hHeld
        refine wpAnyH_done (by kernel_rfl) ?_ _
        refine NoPanic.normal ?_
        go_wp2_with fail
        go_meet
        case rel => exact ⟨_, a9, c9, RN.out⟩
       ·go_simp
        refine (RO.out _ (fD.out)).mono ?_
        rintro e wa ⟨b, rfl, hlo, hF, hba⟩
        have RA := zSg (R.out.went (Gr.step (drawn wr) hba))
        have hca := zAA RA.out.box (k := 3) (by simp [tbc])
        unfold tbc at hca
        have RB := zSg (RA.out.went (boxed wa (.cells #[.slice (some ⟨b, 0, none⟩) (m.G.terms.length + 1) (m.G.terms.length + 1)] 63)))
        have hcb := zAA RB.out.box (k := 3) (by simp [tbc])
        unfold tbc at hcb
        have ON := zSg (Lk.zBv 63 w5.heap.size wa.heap.size (.slice (some ⟨b, 0, none⟩) (m.G.terms.length + 1) (m.G.terms.length + 1)) wa rfl RA.out.fr.size)
        have FF := zSg (hF.went (boxed wa (.cells #[.slice (some ⟨b, 0, none⟩) (m.G.terms.length + 1) (m.G.terms.length + 1)] 63)))
        have hlo5 : w5.heap.size <= b := Nat.le_trans R.out.fr.size hlo
        clear hF hba hlo hHeld
        refine hK'.out _ _ (KS.out _ RA.out.fr) (fun hHeld => ?_)
        clear hK'
        refine wpAnyH_ready (rs := [1, 5]) (by kernel_rfl) (by simp) ?_
        refine AllReadyH.cons (o := _) rfl (fun K' hK' => ?_) (AllReadyH.cons (o := _) rfl (fun K' hK' => ?_) AllReadyH.nil)
        ·go_simp
         refine hK'.out _ _ (KS.out _ RA.out.fr) (fun hHeld => ?_)
         clear hK'
         refine wpAnyH_ready (rs := [5]) (by kernel_rfl) (by simp) ?_
         refine AllReadyH.cons (o := _) rfl (fun K' hK' => ?_) AllReadyH.nil
         go_simp
         refine hK'.out _ _ (KS.out _ RB.out.fr) (fun hHeld => ?_)
         clear hK'
         refine wpAnyH_ready (rs := [6]) (by kernel_rfl) (by simp) ?_
         refine AllReadyH.cons (o := _) rfl (fun K' hK' => ?_) AllReadyH.nil
         refine zAF _ (by rfl) _ _ 32 (by rfl) w5.heap.size 63 i1 (.slice none 0 0) 1 24 Tryz.underlying32 hj1 hy0 hy1 hy2 rfl (by decide) (.slice aa k ca) k _ (by rfl) RB.out.acts.row w5.heap.size (.slice (some ⟨wa.heap.size, 0, none⟩) 1 1) 1 [.slice (some ⟨b, 0, none⟩) (m.G.terms.length + 1) (m.G.terms.length + 1)] (by rfl) ON.out (by simp [Value.oneCell']) (by unfold maxLen; omega) (by omega) RB.out.fr.size ?_
         intro v9 w9 hown9 hg9 hloc9
         obtain ⟨a9, c9, rfl⟩ := Rw.zAG hown9
         have MD := zSg (RB.out.midA hg9)
         have RN := zSg (RB.out.nextA FF.out hlo5 rfl hown9 hg9)
         have hcd := zAA MD.out.2 (k := 3) (by simp [tbc])
         unfold tbc at hcd
         have fd : w9.frozen? ⟨p, 3, none⟩ = false := zAM MD.out.2
         clear hown9 hg9 hloc9
         refine hK'.out _ _ (KS.out _ MD.out.1) (fun hHeld => ?_)
         clear hK'
         simp only [Act.put, List.setIfInBounds_toArray, List.set_cons_zero, List.set_cons_succ]
         refine wpAnyH_take (i := 7) (oi := _) (v := .pointer (some ⟨p, 3, none⟩)) rfl (by kernel_rfl) (by kernel_rfl) (by kernel_rfl) (fun _ _ _ h => h) (Or.inl ⟨by rfl, fun w6 hs6 => by obtain ⟨s0, s1, s2, s3, s4, s5⟩ := zAS hs6; go_simp⟩) (by assumption) ?_
         change wpAnyH _ _ _ _ _ _ _ (Act.put _ (some 43) _) _
         simp only [Act.put, List.setIfInBounds_toArray, List.set_cons_zero, List.set_cons_succ]
         refine wpAnyH_ready (rs := [8]) (by kernel_rfl) (by simp) ?_
         refine AllReadyH.cons (o := _) rfl (fun K' hK' => ?_) AllReadyH.nil
         go_simp
         refine hK'.out _ _ (KS.out _ RN.out.fr) (fun hHeld => ?_)
         clear hK' hHeld
         refine wpAnyH_done (by kernel_rfl) ?_ _
         refine NoPanic.normal ?_
         go_wp2_with fail
         go_meet
         case rel => exact ⟨_, a9, c9, RN.out⟩
        ·go_simp
         refine hK'.out _ _ (KS.out _ RB.out.fr) (fun hHeld => ?_)
         clear hK'
         refine wpAnyH_ready (rs := [1]) (by kernel_rfl) (by simp) ?_
         refine AllReadyH.cons (o := _) rfl (fun K' hK' => ?_) AllReadyH.nil
         go_simp
         refine hK'.out _ _ (KS.out _ RB.out.fr) (fun hHeld => ?_)
         clear hK'
         refine wpAnyH_ready (rs := [6]) (by kernel_rfl) (by simp) ?_
         refine AllReadyH.cons (o := _) rfl (fun K' hK' => ?_) AllReadyH.nil
         refine zAF _ (by rfl) _ _ 32 (by rfl) w5.heap.size 63 i1 (.slice none 0 0) 1 24 Tryz.underlying32 hj1 hy0 hy1 hy2 rfl (by decide) (.slice aa k ca) k _ (by rfl) RB.out.acts.row w5.heap.size (.slice (some ⟨wa.heap.size, 0, none⟩) 1 1) 1 [.slice (some ⟨b, 0, none⟩) (m.G.terms.length + 1) (m.G.terms.length + 1)] (by rfl) ON.out (by simp [Value.oneCell']) (by unfold maxLen; omega) (by omega) RB.out.fr.size ?_
         intro v9 w9 hown9 hg9 hloc9
         obtain ⟨a9, c9, rfl⟩ := Rw.zAG hown9
         have MD := zSg (RB.out.midA hg9)
         have RN := zSg (RB.out.nextA FF.out hlo5 rfl hown9 hg9)
         have hcd := zAA MD.out.2 (k := 3) (by simp [tbc])
         unfold tbc at hcd
         have fd : w9.frozen? ⟨p, 3, none⟩ = false := zAM MD.out.2
         clear hown9 hg9 hloc9
         refine hK'.out _ _ (KS.out _ MD.out.1) (fun hHeld => ?_)
         clear hK'
         simp only [Act.put, List.setIfInBounds_toArray, List.set_cons_zero, List.set_cons_succ]
         refine wpAnyH_take (i := 7) (oi := _) (v := .pointer (some ⟨p, 3, none⟩)) rfl (by kernel_rfl) (by kernel_rfl) (by kernel_rfl) (fun _ _ _ h => h) (Or.inl ⟨by rfl, fun w6 hs6 => by obtain ⟨s0, s1, s2, s3, s4, s5⟩ := zAS hs6; go_simp⟩) (by assumption) ?_
         change wpAnyH _ _ _ _ _ _ _ (Act.put _ (some 43) _) _
         simp only [Act.put, List.setIfInBounds_toArray, List.set_cons_zero, List.set_cons_succ]
         refine wpAnyH_ready (rs := [8]) (by kernel_rfl) (by simp) ?_
         refine AllReadyH.cons (o := _) rfl (fun K' hK' => ?_) AllReadyH.nil
         go_simp
         refine hK'.out _ _ (KS.out _ RN.out.fr) (fun hHeld => ?_)
         clear hK' hHeld
         refine wpAnyH_done (by kernel_rfl) ?_ _
         refine NoPanic.normal ?_
         go_wp2_with fail
         go_meet
         case rel => exact ⟨_, a9, c9, RN.out⟩
      case rest =>
       obtain ⟨BA', aa', ca', hR'⟩ := hcut
       have RR := zSg hR'
       clear hR' RO fD c3 R
       have R := RR
       clear RR
       generalize wc = wr at *
       generalize BA' = BA at *
       generalize aa' = aa at *
       generalize ca' = ca at *
       have RO := zSg (show ∀ w', Fr (fun x => x = p) w5 w' -> Calls Tryz.prog 30 #[.agg #[.slice m.h.a1 m.G.terms.length m.h.c1, .slice m.h.a2 m.G.nons.length m.h.c2, .slice m.h.a3 m.G.rules.length m.h.c3, .int .i64 m.G.start, .slice m.aS m.nS m.cS, .slice m.aL m.nL m.cL], .int .i64 (k : Int)] w' (zJi m.G q k w') from fun w' f => zHR m q w' (DX.out w' f) k hlt)
       have fD := zSg (show Fr (fun x => x = p) w5 wr.drew from R.out.fr.trans (.of_below (drawn wr)) fun x hx => .inl hx)
       have c4 := zAA R.out.box (k := 4) (by simp [tbc])
       unfold tbc at c4
       go_wp2_with fail
       refine wp_region_noPanic ?_
       refine wp_region_held_drew (S := fun w' => w'.heap[w1.heap.size]? = some (.cells (amc m) 69 (0, 0))) (by kernel_rfl) (KS.out _ fD.out) (fun hHeld => ?_)
       refine wpAnyH_take (i := 0) (oi := _) (v := .pointer (some ⟨p, 4, none⟩)) rfl (by kernel_rfl) (by kernel_rfl) (by kernel_rfl) (fun _ _ _ h => h) (Or.inl ⟨by rfl, fun w6 hs6 => by obtain ⟨s0, s1, s2, s3, s4, s5⟩ := zAS hs6; go_simp⟩) (by assumption) ?_
       change wpAnyH _ _ _ _ _ _ _ (Act.put _ (some 44) _) _
       simp only [Act.put, List.setIfInBounds_toArray, List.set_cons_zero, List.set_cons_succ]
       refine wpAnyH_take (i := 2) (oi := _) (v := .agg #[.slice m.h.a1 m.G.terms.length m.h.c1, .slice m.h.a2 m.G.nons.length m.h.c2, .slice m.h.a3 m.G.rules.length m.h.c3, .int .i64 m.G.start, .slice m.aS m.nS m.cS, .slice m.aL m.nL m.cL]) rfl (by kernel_rfl) (by kernel_rfl) (by kernel_rfl) (fun _ _ _ h => h) (Or.inl ⟨by rfl, fun w6 hs6 => by obtain ⟨s0, s1, s2, s3, s4, s5⟩ := zAS hs6; go_simp⟩) (by assumption) ?_
       change wpAnyH _ _ _ _ _ _ _ (Act.put _ (some 46) _) _
       simp only [Act.put, List.setIfInBounds_toArray, List.set_cons_zero, List.set_cons_succ]
       refine wpAnyH_take (i := 3) (oi := _) (v := .int .i64 (k : Int)) rfl (by kernel_rfl) (by kernel_rfl) (by kernel_rfl) (fun _ _ _ h => h) (Or.inl ⟨by rfl, fun w6 hs6 => by obtain ⟨s0, s1, s2, s3, s4, s5⟩ := zAS hs6; go_simp⟩) (by assumption) ?_
       change wpAnyH _ _ _ _ _ _ _ (Act.put _ (some 47) _) _
       simp only [Act.put, List.setIfInBounds_toArray, List.set_cons_zero, List.set_cons_succ]
       refine wpAnyH_ready (rs := [1, 4]) (by kernel_rfl) (by simp) ?_
       refine AllReadyH.cons (o := _) rfl (fun K' hK' => ?_) (AllReadyH.cons (o := _) rfl (fun K' hK' => ?_) AllReadyH.nil)
       ·go_simp
        refine hK'.out _ _ (KS.out _ fD.out) (fun hHeld => ?_)
        clear hK'
        refine wpAnyH_ready (rs := [4]) (by kernel_rfl) (by simp) ?_
        refine AllReadyH.cons (o := _) rfl (fun K' hK' => ?_) AllReadyH.nil
        go_simp
        refine (RO.out _ (fD.out)).mono ?_
        rintro e wa ⟨b, rfl, hlo, hF, hba⟩
        have RA := zSg (R.out.went (Gr.step (drawn wr) hba))
        have hca := zAA RA.out.box (k := 4) (by simp [tbc])
        unfold tbc at hca
        have RB := zSg (RA.out.went (boxed wa (.cells #[.slice (some ⟨b, 0, none⟩) m.G.nons.length m.G.nons.length] 55)))
        have hcb := zAA RB.out.box (k := 4) (by simp [tbc])
        unfold tbc at hcb
        have ON := zSg (Lk.zBv 55 w5.heap.size wa.heap.size (.slice (some ⟨b, 0, none⟩) m.G.nons.length m.G.nons.length) wa rfl RA.out.fr.size)
        have FF := zSg (hF.went (boxed wa (.cells #[.slice (some ⟨b, 0, none⟩) m.G.nons.length m.G.nons.length] 55)))
        have hlo5 : w5.heap.size <= b := Nat.le_trans R.out.fr.size hlo
        clear hF hba hlo hHeld
        refine hK'.out _ _ (KS.out _ RA.out.fr) (fun hHeld => ?_)
        clear hK'
        refine wpAnyH_ready (rs := [5]) (by kernel_rfl) (by simp) ?_
        refine AllReadyH.cons (o := _) rfl (fun K' hK' => ?_) AllReadyH.nil
        go_simp
        refine hK'.out _ _ (KS.out _ RB.out.fr) (fun hHeld => ?_)
        clear hK'
        refine wpAnyH_ready (rs := [6]) (by kernel_rfl) (by simp) ?_
        refine AllReadyH.cons (o := _) rfl (fun K' hK' => ?_) AllReadyH.nil
        refine zAF _ (by rfl) _ _ 33 (by rfl) w5.heap.size 55 i2 (.slice none 0 0) 1 24 Tryz.underlying33 hj2 hx0 hx1 hx2 rfl (by decide) (.slice ag k cg) k _ (by rfl) RB.out.goto.row w5.heap.size (.slice (some ⟨wa.heap.size, 0, none⟩) 1 1) 1 [.slice (some ⟨b, 0, none⟩) m.G.nons.length m.G.nons.length] (by rfl) ON.out (by simp [Value.oneCell']) (by unfold maxLen; omega) (by omega) RB.out.fr.size ?_
        intro v9 w9 hown9 hg9 hloc9
        obtain ⟨a9, c9, rfl⟩ := Rw.zAG hown9
        have MD := zSg (RB.out.midG hg9)
        have RN := zSg (RB.out.nextG FF.out hlo5 rfl hown9 hg9)
        have hcd := zAA MD.out.2 (k := 4) (by simp [tbc])
        unfold tbc at hcd
        have fd : w9.frozen? ⟨p, 4, none⟩ = false := zAM MD.out.2
        clear hown9 hg9 hloc9
        refine hK'.out _ _ (KS.out _ MD.out.1) (fun hHeld => ?_)
        clear hK'
        simp only [Act.put, List.setIfInBounds_toArray, List.set_cons_zero, List.set_cons_succ]
        refine wpAnyH_take (i := 7) (oi := _) (v := .pointer (some ⟨p, 4, none⟩)) rfl (by kernel_rfl) (by kernel_rfl) (by kernel_rfl) (fun _ _ _ h => h) (Or.inl ⟨by rfl, fun w6 hs6 => by obtain ⟨s0, s1, s2, s3, s4, s5⟩ := zAS hs6; go_simp⟩) (by assumption) ?_
        change wpAnyH _ _ _ _ _ _ _ (Act.put _ (some 51) _) _
        simp only [Act.put, List.setIfInBounds_toArray, List.set_cons_zero, List.set_cons_succ]
        refine wpAnyH_ready (rs := [8]) (by kernel_rfl) (by simp) ?_
        refine AllReadyH.cons (o := _) rfl (fun K' hK' => ?_) AllReadyH.nil
        go_simp
        refine hK'.out _ _ (KS.out _ RN.out.fr) (fun hHeld => ?_)
        clear hK' hHeld
        refine wpAnyH_done (by kernel_rfl) ?_ _
        refine NoPanic.normal ?_
        go_wp2_with fail
        go_roundw
        case rel => exact ⟨k + 1, _, _, aa, ca, a9, c9, by go_num, by omega, RN.out⟩
        case measure => first | (simp [intOf]; omega) | (simp only [intOf]; omega) | omega
       ·go_simp
        refine (RO.out _ (fD.out)).mono ?_
        rintro e wa ⟨b, rfl, hlo, hF, hba⟩
        have RA := zSg (R.out.went (Gr.step (drawn wr) hba))
        have hca := zAA RA.out.box (k := 4) (by simp [tbc])
        unfold tbc at hca
        have RB := zSg (RA.out.went (boxed wa (.cells #[.slice (some ⟨b, 0, none⟩) m.G.nons.length m.G.nons.length] 55)))
        have hcb := zAA RB.out.box (k := 4) (by simp [tbc])
        unfold tbc at hcb
        have ON := zSg (Lk.zBv 55 w5.heap.size wa.heap.size (.slice (some ⟨b, 0, none⟩) m.G.nons.length m.G.nons.length) wa rfl RA.out.fr.size)
        have FF := zSg (hF.went (boxed wa (.cells #[.slice (some ⟨b, 0, none⟩) m.G.nons.length m.G.nons.length] 55)))
        have hlo5 : w5.heap.size <= b := Nat.le_trans R.out.fr.size hlo
        clear hF hba hlo hHeld
        refine hK'.out _ _ (KS.out _ RA.out.fr) (fun hHeld => ?_)
        clear hK'
        refine wpAnyH_ready (rs := [1, 5]) (by kernel_rfl) (by simp) ?_
        refine AllReadyH.cons (o := _) rfl (fun K' hK' => ?_) (AllReadyH.cons (o := _) rfl (fun K' hK' => ?_) AllReadyH.nil)
        ·go_simp
         refine hK'.out _ _ (KS.out _ RA.out.fr) (fun hHeld => ?_)
         clear hK'
         refine wpAnyH_ready (rs := [5]) (by kernel_rfl) (by simp) ?_
         refine AllReadyH.cons (o := _) rfl (fun K' hK' => ?_) AllReadyH.nil
         go_simp
         refine hK'.out _ _ (KS.out _ RB.out.fr) (fun hHeld => ?_)
         clear hK'
         refine wpAnyH_ready (rs := [6]) (by kernel_rfl) (by simp) ?_
         refine AllReadyH.cons (o := _) rfl (fun K' hK' => ?_) AllReadyH.nil
         refine zAF _ (by rfl) _ _ 33 (by rfl) w5.heap.size 55 i2 (.slice none 0 0) 1 24 Tryz.underlying33 hj2 hx0 hx1 hx2 rfl (by decide) (.slice ag k cg) k _ (by rfl) RB.out.goto.row w5.heap.size (.slice (some ⟨wa.heap.size, 0, none⟩) 1 1) 1 [.slice (some ⟨b, 0, none⟩) m.G.nons.length m.G.nons.length] (by rfl) ON.out (by simp [Value.oneCell']) (by unfold maxLen; omega) (by omega) RB.out.fr.size ?_
         intro v9 w9 hown9 hg9 hloc9
         obtain ⟨a9, c9, rfl⟩ := Rw.zAG hown9
         have MD := zSg (RB.out.midG hg9)
         have RN := zSg (RB.out.nextG FF.out hlo5 rfl hown9 hg9)
         have hcd := zAA MD.out.2 (k := 4) (by simp [tbc])
         unfold tbc at hcd
         have fd : w9.frozen? ⟨p, 4, none⟩ = false := zAM MD.out.2
         clear hown9 hg9 hloc9
         refine hK'.out _ _ (KS.out _ MD.out.1) (fun hHeld => ?_)
         clear hK'
         simp only [Act.put, List.setIfInBounds_toArray, List.set_cons_zero, List.set_cons_succ]
         refine wpAnyH_take (i := 7) (oi := _) (v := .pointer (some ⟨p, 4, none⟩)) rfl (by kernel_rfl) (by kernel_rfl) (by kernel_rfl) (fun _ _ _ h => h) (Or.inl ⟨by rfl, fun w6 hs6 => by obtain ⟨s0, s1, s2, s3, s4, s5⟩ := zAS hs6; go_simp⟩) (by assumption) ?_
         change wpAnyH _ _ _ _ _ _ _ (Act.put _ (some 51) _) _
         simp only [Act.put, List.setIfInBounds_toArray, List.set_cons_zero, List.set_cons_succ]
         refine wpAnyH_ready (rs := [8]) (by kernel_rfl) (by simp) ?_
         refine AllReadyH.cons (o := _) rfl (fun K' hK' => ?_) AllReadyH.nil
         go_simp
         refine hK'.out _ _ (KS.out _ RN.out.fr) (fun hHeld => ?_)
         clear hK' hHeld
         refine wpAnyH_done (by kernel_rfl) ?_ _
         refine NoPanic.normal ?_
         go_wp2_with fail
         go_roundw
         case rel => exact ⟨k + 1, _, _, aa, ca, a9, c9, by go_num, by omega, RN.out⟩
         case measure => first | (simp [intOf]; omega) | (simp only [intOf]; omega) | omega
        ·go_simp
         refine hK'.out _ _ (KS.out _ RB.out.fr) (fun hHeld => ?_)
         clear hK'
         refine wpAnyH_ready (rs := [1]) (by kernel_rfl) (by simp) ?_
         refine AllReadyH.cons (o := _) rfl (fun K' hK' => ?_) AllReadyH.nil
         go_simp
         refine hK'.out _ _ (KS.out _ RB.out.fr) (fun hHeld => ?_)
         clear hK'
         refine wpAnyH_ready (rs := [6]) (by kernel_rfl) (by simp) ?_
         refine AllReadyH.cons (o := _) rfl (fun K' hK' => ?_) AllReadyH.nil
         refine zAF _ (by rfl) _ _ 33 (by rfl) w5.heap.size 55 i2 (.slice none 0 0) 1 24 Tryz.underlying33 hj2 hx0 hx1 hx2 rfl (by decide) (.slice ag k cg) k _ (by rfl) RB.out.goto.row w5.heap.size (.slice (some ⟨wa.heap.size, 0, none⟩) 1 1) 1 [.slice (some ⟨b, 0, none⟩) m.G.nons.length m.G.nons.length] (by rfl) ON.out (by simp [Value.oneCell']) (by unfold maxLen; omega) (by omega) RB.out.fr.size ?_
         intro v9 w9 hown9 hg9 hloc9
         obtain ⟨a9, c9, rfl⟩ := Rw.zAG hown9
         have MD := zSg (RB.out.midG hg9)
         have RN := zSg (RB.out.nextG FF.out hlo5 rfl hown9 hg9)
         have hcd := zAA MD.out.2 (k := 4) (by simp [tbc])
         unfold tbc at hcd
         have fd : w9.frozen? ⟨p, 4, none⟩ = false := zAM MD.out.2
         clear hown9 hg9 hloc9
         refine hK'.out _ _ (KS.out _ MD.out.1) (fun hHeld => ?_)
         clear hK'
         simp only [Act.put, List.setIfInBounds_toArray, List.set_cons_zero, List.set_cons_succ]
         refine wpAnyH_take (i := 7) (oi := _) (v := .pointer (some ⟨p, 4, none⟩)) rfl (by kernel_rfl) (by kernel_rfl) (by kernel_rfl) (fun _ _ _ h => h) (Or.inl ⟨by rfl, fun w6 hs6 => by obtain ⟨s0, s1, s2, s3, s4, s5⟩ := zAS hs6; go_simp⟩) (by assumption) ?_
         change wpAnyH _ _ _ _ _ _ _ (Act.put _ (some 51) _) _
         simp only [Act.put, List.setIfInBounds_toArray, List.set_cons_zero, List.set_cons_succ]
         refine wpAnyH_ready (rs := [8]) (by kernel_rfl) (by simp) ?_
         refine AllReadyH.cons (o := _) rfl (fun K' hK' => ?_) AllReadyH.nil
         go_simp
         refine hK'.out _ _ (KS.out _ RN.out.fr) (fun hHeld => ?_)
         clear hK' hHeld
         refine wpAnyH_done (by kernel_rfl) ?_ _
         refine NoPanic.normal ?_
         go_wp2_with fail
         go_roundw
         case rel => exact ⟨k + 1, _, _, aa, ca, a9, c9, by go_num, by omega, RN.out⟩
         case measure => first | (simp [intOf]; omega) | (simp only [intOf]; omega) | omega
     ·obtain rfl : k = q.1.length := by omega
      have hkl : ¬ ((q.1.length : Int) < (m.nS : Int)) := by rw [HN.out]; omega
      obtain ⟨sz1, sz2, sz3⟩ := HZ.out
      have hlo := OB.out.lo
      have hpl := OB.out.pl
      have fR := R.out.fr
      have hsR := fR.size
      have Z5 := zSg (And.intro (zAO fR ((OB.out.below.block (w.heap.size + 1) (by omega)).trans ZW.out.1) (by omega)) (zAO fR ((OB.out.below.block (w.heap.size + 1 + 1) (by omega)).trans ZW.out.2) (by omega)))
      have D5 := zAO fR ((OB.out.below.block w4.heap.size (by omega)).trans DW.out) (by omega)
      have hbx := R.out.box
      unfold tbc at hbx
      have t0 := zAA hbx (k := 0) (by simp)
      have t1 := zAA hbx (k := 1) (by simp)
      have t2 := zAA hbx (k := 2) (by simp)
      have t3 := zAA hbx (k := 3) (by simp)
      have t4 := zAA hbx (k := 4) (by simp)
      have y0 := zAA Z5.out.1 (k := 0) (by simp)
      have y1 := zAA Z5.out.1 (k := 1) (by simp)
      have y2 := zAA Z5.out.1 (k := 2) (by simp)
      have y3 := zAA Z5.out.1 (k := 3) (by simp)
      have y4 := zAA Z5.out.1 (k := 4) (by simp)
      have y5 := zAA Z5.out.2 (k := 0) (by simp)
      have f0 := zAM (k := 0) Z5.out.1
      have f1 := zAM (k := 1) Z5.out.1
      have f2 := zAM (k := 2) Z5.out.1
      have f3 := zAM (k := 3) Z5.out.1
      have f4 := zAM (k := 4) Z5.out.1
      have f5 := zAM (k := 0) Z5.out.2
      have EE := zSg (zEG Z5.out.1 Z5.out.2 (.slice aR (m.G.rules.length + 1) cR) (.int .i64 (m.G.terms.length : Int)) (.int .i64 (m.G.nons.length : Int)) (.slice aa q.1.length ca) (.slice ag q.1.length cg) (.int .i64 0))
      have EN := zSg (show ∀ w', Fr (fun x => x ∈ [w4.heap.size]) (put6 wr (w.heap.size + 1) (.slice aR (m.G.rules.length + 1) cR) (.int .i64 (m.G.terms.length : Int)) (.int .i64 (m.G.nons.length : Int)) (.slice aa q.1.length ca) (.slice ag q.1.length cg) (.int .i64 0)) w' -> w'.heap[w.heap.size + 1]? = some (.cells #[.slice aR (m.G.rules.length + 1) cR, .int .i64 (m.G.terms.length : Int), .int .i64 (m.G.nons.length : Int), .slice aa q.1.length ca, .slice ag q.1.length cg] 35 (0, 0)) /\ w'.heap[w.heap.size + 1 + 1]? = some (.cells #[.int .i64 0] 29 (0, 0)) /\ OfGave m.G w (.returned (.tuple #[.agg #[.slice aR (m.G.rules.length + 1) cR, .int .i64 (m.G.terms.length : Int), .int .i64 (m.G.nons.length : Int), .slice aa q.1.length ca, .slice ag q.1.length cg], .int .i64 0])) w' from fun w' hf => by
       have hall : Fr (fun x => x = w.heap.size + 1 \/ x = w.heap.size + 1 + 1 \/ x = w4.heap.size) wr w' := (EE.out.2.2.mono (fun x hx => hx.imp id .inl)).trans hf (fun x hx => .inl (.inr (.inr (List.mem_singleton.1 hx))))
       have hx1 := XW.out.below.size
       refine ⟨zAO hf EE.out.1 (by rw [List.mem_singleton]; omega), zAO hf EE.out.2.1 (by rw [List.mem_singleton]; omega), ?_⟩
       refine .yes (aR := aR) (aA := aa) (aG := ag) DD.out.hv DD.out.done DD.out.len hB hcl OB.out.cap rfl ⟨OB.out.rules w' ((fR.mono fun x hx => .inl hx).trans hall fun x hx => .inl (.inr (by omega))), (R.out.reads.1.frs hall fun x hx => by omega).low (Nat.zero_le _), (R.out.reads.2.frs hall fun x hx => by omega).low (Nat.zero_le _)⟩ ?_
       exact XW.out.below.trans ((OB.out.below.mono hx1).trans ((fR.below (m := w.heap.size) (fun x hx => by omega) (by omega)).trans (hall.below (m := w.heap.size) (fun x hx => by omega) (by omega))))
      )
      have LM := zSg (show ∀ (fn : Func) (tmps : Array Value) (R : Ending -> World -> Prop), (∀ w', Fr (fun x => x ∈ [w4.heap.size]) (put6 wr (w.heap.size + 1) (.slice aR (m.G.rules.length + 1) cR) (.int .i64 (m.G.terms.length : Int)) (.int .i64 (m.G.nons.length : Int)) (.slice aa q.1.length ca) (.slice ag q.1.length cg) (.int .i64 0)) w' -> ∃ v, (results fn tmps).run Tryz.prog w' = .ok v w' /\ R (.returned v) w') -> LeavesInM Fence.wide 9 Tryz.prog fn tmps R [{ target := .collected w4.heap.size, args := #[] }] .returning (put6 wr (w.heap.size + 1) (.slice aR (m.G.rules.length + 1) cR) (.int .i64 (m.G.terms.length : Int)) (.int .i64 (m.G.nons.length : Int)) (.slice aa q.1.length ca) (.slice ag q.1.length cg) (.int .i64 0)) from
       fun fn tmps R hR => zAi [w4.heap.size] _ (by simp) (fun D hD' => by rw [List.mem_singleton] at hD'; subst hD'; exact zAO EE.out.2.2 D5 (by omega)) hR)
      unfold put6 set5 at EE EN LM
      clear Z5 D5 hbx fR hsR hlo hpl sz1 sz2 sz3
      go_wp2_with fail
      refine LM.out _ _ _ ?_
      intro w' hf
      obtain ⟨e1, e2, e3⟩ := EN.out w' hf
      exact ⟨_, zDK _ rfl rfl e1 rfl e2, e3⟩
