/-
  The statements' own function awake. No condition.
-/
import Derived.Test.YtkggpkbdekebcaaGreatItemMain
import Derived.Test.YtkggpkbdekebcaaGreatItemStep
import Derived.Test.YtkggpkbdekebcaaGreatItemKernel
namespace Go.Proofs.YtkggpkbdekebcaaGreat.Im
open Go.RowKit Go.Maps
open Go.Proofs.YtkggpkbdekebcaaGreat.Gr (Gram Sh gv GAt Bx Box boxed drawn checkN check_all formB plnS Fits cell_new cell_old cell_later free_new free_old)
set_option linter.unusedVariables false

/-- The grammar of awake. -/
def GA : Gram := { terms := [⟨#[65]⟩, ⟨#[66]⟩], nons := [⟨#[115]⟩, ⟨#[116]⟩], rules := [(3, [4, 1]), (4, [2])], start := 3 }
theorem ga_check : checkN GA = 0 := by
  refine check_all (by decide +kernel) ?_ (by decide +kernel) (by decide +kernel) (by decide +kernel) (by decide +kernel)
  have h1 : plnS ⟨#[65]⟩ = true := by decide +kernel
  have h2 : plnS ⟨#[66]⟩ = true := by decide +kernel
  have h3 : plnS ⟨#[115]⟩ = true := by decide +kernel
  have h4 : plnS ⟨#[116]⟩ = true := by decide +kernel
  simp [formB, GA, h1, h2, h3, h4]

/-- Its closure. -/
def cA : List Itm := [(0, 0), (1, 0), (2, 0)]
theorem ca_is : Is cA (Clo GA [(2, 0)]) := by
  have r2 : Clo GA [(2, 0)] (2, 0) := .of (List.mem_singleton.2 rfl) (by decide +kernel)
  have r0 : Clo GA [(2, 0)] (((0 : Nat) : Int), 0) := .next r2 (by decide +kernel) (by decide +kernel)
  have r1 : Clo GA [(2, 0)] (((1 : Nat) : Int), 0) := .next r0 (by decide +kernel) (by decide +kernel)
  refine ⟨?_, fun x => ⟨fun h => ?_, fun h => ?_⟩⟩
  · unfold Srt cA
    simp [ltP]
  · simp only [cA, List.mem_cons, List.not_mem_nil, or_false] at h
    rcases h with rfl | rfl | rfl
    · exact r0
    · exact r1
    · exact r2
  · induction h with
    | of h _ =>
      rw [List.mem_singleton] at h
      subst h
      simp [cA]
    | next _ _ h ih =>
      rename_i y r _ _
      simp only [cA, List.mem_cons, List.not_mem_nil, or_false] at ih
      rcases ih with rfl | rfl | rfl
      · have e : Gr.ofN GA (behV GA (0, 0)) = [1] := by decide +kernel
        rw [e, List.mem_singleton] at h
        subst h
        simp [cA]
      · have e : Gr.ofN GA (behV GA (1, 0)) = [] := by decide +kernel
        rw [e] at h
        cases h
      · have e : Gr.ofN GA (behV GA (2, 0)) = [0] := by decide +kernel
        rw [e, List.mem_singleton] at h
        subst h
        simp [cA]
theorem sa_is : Is [(0, 1)] (StepP GA cA 4) := by
  refine ⟨srt_one _, fun x => ?_⟩
  rw [List.mem_singleton]
  constructor
  · rintro rfl
    exact ⟨(0, 0), by simp [cA], by decide +kernel, by decide +kernel, rfl⟩
  · rintro ⟨y, h1, h2, h3, rfl⟩
    simp only [cA, List.mem_cons, List.not_mem_nil, or_false] at h1
    rcases h1 with rfl | rfl | rfl
    · rfl
    · exact absurd h3 (by decide +kernel)
    · exact absurd h3 (by decide +kernel)
theorem ka_is : Is [(2, 0)] (KerP GA cA) := by
  refine ⟨srt_one _, fun x => ?_⟩
  rw [List.mem_singleton]
  constructor
  · rintro rfl
    exact ⟨by simp [cA], by decide +kernel, .inr rfl⟩
  · rintro ⟨h1, _, h3⟩
    simp only [cA, List.mem_cons, List.not_mem_nil, or_false] at h1
    rcases h1 with rfl | rfl | rfl
    · exact absurd h3 (by simp [GA])
    · exact absurd h3 (by simp [GA])
    · rfl
theorem ba_is : bhdV GA (1, 0) = 2 ∧ bhdB GA (1, 0) = true := by
  unfold bhdV bhdB
  rw [ga_check]
  decide +kernel
theorem ra_is : rgtB GA (2, 1) = true := by
  unfold rgtB
  rw [ga_check]
  decide +kernel

/-- The world behind the literals of awake, and where they lie. -/
def lw (W : World) : World :=
  ((((W.alloc (.cells #[.string ⟨#[65]⟩, .string ⟨#[66]⟩] 9)).alloc (.cells #[.string ⟨#[115]⟩, .string ⟨#[116]⟩] 9)).alloc (.cells #[.int .i64 4, .int .i64 1] 3)).alloc (.cells #[.int .i64 2] 3)).alloc
    (.cells #[.int .i64 3, .slice (some ⟨W.heap.size + 1 + 1, 0, none⟩) 2 2, .int .i64 4, .slice (some ⟨W.heap.size + 1 + 1 + 1, 0, none⟩) 1 1] 43)
def ah (W : World) : Sh := ⟨some ⟨W.heap.size, 0, none⟩, 2, some ⟨W.heap.size + 1, 0, none⟩, 2, some ⟨W.heap.size + 1 + 1 + 1 + 1, 0, none⟩, 2⟩
theorem lw_below (W : World) : Below W.heap.size W (lw W) := Gr.step (Gr.step (Gr.step (Gr.step (boxed _ _) (boxed _ _)) (boxed _ _)) (boxed _ _)) (boxed _ _)
theorem lw_size (W : World) : (lw W).heap.size = W.heap.size + 5 := by simp [lw]
theorem fitz (x : Int) (h : -1000 ≤ x) (k : x ≤ 1000) : Fits x := ⟨by omega, by omega⟩
theorem lw_at (W : World) : GAt (ah W) GA (lw W) := by
  refine ⟨fun i hi => ?_, fun i hi => ?_, fun i hi => ?_, by simp [ah, GA], by simp [GA], by simp [GA], by simp [ah, GA], by simp [GA], ⟨?_, ?_, fitz _ (by decide) (by decide), ?_, ?_⟩⟩
  · have h2 : i < 2 := hi
    refine ⟨W.heap.size, 0, rfl, ?_⟩
    have : i = 0 ∨ i = 1 := by omega
    rcases this with rfl | rfl <;> exact cell_old (cell_old (cell_old (cell_old (cell_new rfl rfl))))
  · have h2 : i < 2 := hi
    refine ⟨W.heap.size + 1, 0, rfl, ?_⟩
    have : i = 0 ∨ i = 1 := by omega
    rcases this with rfl | rfl <;> exact cell_old (cell_old (cell_old (cell_new (by simp) rfl)))
  · have h2 : i < 2 := hi
    have : i = 0 ∨ i = 1 := by omega
    rcases this with rfl | rfl
    · refine ⟨W.heap.size + 1 + 1 + 1 + 1, 0, some ⟨W.heap.size + 1 + 1, 0, none⟩, 2, rfl, cell_new (by simp) rfl, cell_new (by simp) rfl, fun j hj => ?_, by simp [GA], by simp [GA]⟩
      have h3 : j < 2 := hj
      refine ⟨W.heap.size + 1 + 1, 0, rfl, ?_⟩
      have : j = 0 ∨ j = 1 := by omega
      rcases this with rfl | rfl <;> exact cell_old (cell_old (cell_new (by simp) rfl))
    · refine ⟨W.heap.size + 1 + 1 + 1 + 1, 0, some ⟨W.heap.size + 1 + 1 + 1, 0, none⟩, 1, rfl, cell_new (by simp) rfl, cell_new (by simp) rfl, fun j hj => ?_, by simp [GA], by simp [GA]⟩
      have h3 : j < 1 := hj
      obtain rfl : j = 0 := by omega
      exact ⟨W.heap.size + 1 + 1 + 1, 0, rfl, cell_old (cell_new (by simp) rfl)⟩
  · intro s hs
    simp only [GA, List.mem_cons, List.not_mem_nil, or_false] at hs
    rcases hs with rfl | rfl <;> simp [ByteArray.size]
  · intro s hs
    simp only [GA, List.mem_cons, List.not_mem_nil, or_false] at hs
    rcases hs with rfl | rfl <;> simp [ByteArray.size]
  · intro r hr
    simp only [GA, List.mem_cons, List.not_mem_nil, or_false] at hr
    rcases hr with rfl | rfl <;> exact fitz _ (by decide) (by decide)
  · intro r hr x hx
    simp only [GA, List.mem_cons, List.not_mem_nil, or_false] at hr
    rcases hr with rfl | rfl
    · simp only [List.mem_cons, List.not_mem_nil, or_false] at hx
      rcases hx with rfl | rfl <;> exact fitz _ (by decide) (by decide)
    · simp only [List.mem_cons, List.not_mem_nil, or_false] at hx
      subst hx
      exact fitz _ (by decide) (by decide)

/-- A list comes back that reads so. -/
def Got (L : List Itm) (n : Nat) (w : World) (e : Ending) (w' : World) : Prop := ∃ a c, e = .returned (.slice a n c) ∧ ItsA a L w' ∧ Below w.heap.size w w'
theorem got_of {P Q : Itm → Prop} {L : List Itm} {w : World} {e : Ending} {w' : World} (h : ListIs P w e w') (hi : ∀ x, P x ↔ Q x) (k : Is L Q) : Got L L.length w e w' := by
  obtain ⟨Y, a, c, h1, h2, h3, h4⟩ := h
  obtain rfl : Y = L := (h2.iff hi).uniq k
  exact ⟨a, c, h1, h3.reads, h4⟩
theorem ca_64 : ∀ x ∈ cA, W64 x := fun x hx => right_w64 ga_check (clo_right ((ca_is.2 x).1 hx))
theorem c_begin (W w : World) (k : GAt (ah W) GA w) : Calls Tryz.prog 9 #[gv (ah W) GA] w (Got [(2, 0)] 1 w) :=
  (begin_any _ _ w k).mono fun e w' h => got_of h (fun x => ⟨fun q => q.2, fun q => ⟨ga_check, q⟩⟩) ⟨srt_one _, fun x => by rw [List.mem_singleton]; rfl⟩
theorem c_close (W w : World) (k : GAt (ah W) GA w) (a : Option Addr) (c : Nat) (h : ItsA a [(2, 0)] w) : Calls Tryz.prog 10 #[gv (ah W) GA, .slice a 1 c] w (Got cA 3 w) :=
  (close_any _ _ [(2, 0)] a c w k h (fun x hx => by rw [List.mem_singleton] at hx; subst hx; exact ⟨by decide, by decide⟩) (by simp)).mono fun e w' h => got_of h (fun x => ⟨fun q => q.2, fun q => ⟨ga_check, q⟩⟩) ca_is
theorem c_step (W w : World) (k : GAt (ah W) GA w) (a : Option Addr) (c : Nat) (h : ItsA a cA w) : Calls Tryz.prog 11 #[gv (ah W) GA, .slice a 3 c, .int .i64 4] w (Got [(0, 1)] 1 w) :=
  (step_any _ _ cA a c 4 w k h ca_64 (by simp [cA])).mono fun e w' h => got_of h (fun x => ⟨fun q => q.2, fun q => ⟨ga_check, q⟩⟩) sa_is
theorem c_kernel (W w : World) (k : GAt (ah W) GA w) (a : Option Addr) (c : Nat) (h : ItsA a cA w) : Calls Tryz.prog 12 #[gv (ah W) GA, .slice a 3 c] w (Got [(2, 0)] 1 w) :=
  (kernel_any _ _ cA a c w k h ca_64 (by simp [cA])).mono fun e w' h => got_of h (fun x => ⟨fun q => q.2, fun q => ⟨ga_check, q⟩⟩) ka_is
theorem c_behind (W w : World) (k : GAt (ah W) GA w) : Calls Tryz.prog 7 #[gv (ah W) GA, iv (1, 0)] w (Gr.Is (.tuple #[.int .i64 2, .bool true]) w) := by
  have := behindM_any (ah W) GA (1, 0) w k
  rw [ba_is.1, ba_is.2] at this
  exact this
theorem c_right (W w : World) (k : GAt (ah W) GA w) : Calls Tryz.prog 8 #[gv (ah W) GA, iv (2, 1)] w (Gr.Is (.bool true) w) := by
  have := right_any (ah W) GA (2, 1) w k
  rw [ra_is] at this
  exact this

/-- The grammar's value, and its box. -/
abbrev gl (W : World) : Value := .agg #[.slice (some ⟨W.heap.size, 0, none⟩) 2 2, .slice (some ⟨W.heap.size + 1, 0, none⟩) 2 2, .slice (some ⟨W.heap.size + 1 + 1 + 1 + 1, 0, none⟩) 2 2, .int .i64 3]
theorem aw_box {W w : World} (X : Bx (lw W) (ah W) GA w) : w.cell? ⟨W.heap.size + 1 + 1 + 1 + 1 + 1, 0, none⟩ = some (.slice (some ⟨W.heap.size, 0, none⟩) 2 2) ∧ w.cell? ⟨W.heap.size + 1 + 1 + 1 + 1 + 1, 1, none⟩ = some (.slice (some ⟨W.heap.size + 1, 0, none⟩) 2 2) ∧
    w.cell? ⟨W.heap.size + 1 + 1 + 1 + 1 + 1, 2, none⟩ = some (.slice (some ⟨W.heap.size + 1 + 1 + 1 + 1, 0, none⟩) 2 2) ∧ w.cell? ⟨W.heap.size + 1 + 1 + 1 + 1 + 1, 3, none⟩ = some (.int .i64 3) := by
  have h := X.box
  rw [lw_size] at h
  exact ⟨h.x0, h.x1, h.x2, h.x3⟩

set_option maxRecDepth 100000 in
set_option maxHeartbeats 4000000 in
theorem awake_any (W : World) : Calls Tryz.prog 5 #[] W (Gr.Is (.bool true) W) := by
  have KG := Lib.hid (fun w1 (b : Below (lw W).heap.size (lw W) w1) => (lw_at W).went b)
  have X0 := Lib.hid (Bx.start (ah W) GA (lw W) 25)
  have BL := Lib.hid (lw_below W)
  have hls := lw_size W
  obtain ⟨wq, hwq⟩ : ∃ wq, (lw W).alloc (.cells #[.slice (ah W).a1 GA.terms.length (ah W).c1, .slice (ah W).a2 GA.nons.length (ah W).c2, .slice (ah W).a3 GA.rules.length (ah W).c3, .int .i64 GA.start] 25) = wq := ⟨_, rfl⟩
  rw [hwq] at X0
  unfold lw at hwq
  unfold ah at hwq
  simp only [GA, List.length_cons, List.length_nil, Nat.reduceAdd] at hwq
  go_enter Tryz.func5, Tryz.ntmps5
  go_wp2_with fail
  clear hwq
  have CB := Lib.hid (fun w1 b => show Calls Tryz.prog 9 #[gl W] w1 (Got [(2, 0)] 1 w1) from c_begin W w1 (KG.out w1 b))
  have CC := Lib.hid (fun w1 b a c h => show Calls Tryz.prog 10 #[gl W, .slice a 1 c] w1 (Got cA 3 w1) from c_close W w1 (KG.out w1 b) a c h)
  have CH := Lib.hid (fun w1 b => show Calls Tryz.prog 7 #[gl W, .agg #[.int .i64 1, .int .i64 0]] w1 (Gr.Is (.tuple #[.int .i64 2, .bool true]) w1) from c_behind W w1 (KG.out w1 b))
  have CR := Lib.hid (fun w1 b => show Calls Tryz.prog 8 #[gl W, .agg #[.int .i64 2, .int .i64 1]] w1 (Gr.Is (.bool true) w1) from c_right W w1 (KG.out w1 b))
  have CS := Lib.hid (fun w1 b a c h => show Calls Tryz.prog 11 #[gl W, .slice a 3 c, .int .i64 4] w1 (Got [(0, 1)] 1 w1) from c_step W w1 (KG.out w1 b) a c h)
  have CK := Lib.hid (fun w1 b a c h => show Calls Tryz.prog 12 #[gl W, .slice a 3 c] w1 (Got [(2, 0)] 1 w1) from c_kernel W w1 (KG.out w1 b) a c h)
  clear KG
  have HQ := Lib.hid (fun w' (b : Below wq.heap.size wq w') => aw_box (X0.out.went b))
  have hb0 := drawn wq
  go_region_held3 (fun w' => w'.cell? ⟨W.heap.size + 1 + 1 + 1 + 1 + 1, 0, none⟩ = some (.slice (some ⟨W.heap.size, 0, none⟩) 2 2) ∧ w'.cell? ⟨W.heap.size + 1 + 1 + 1 + 1 + 1, 1, none⟩ = some (.slice (some ⟨W.heap.size + 1, 0, none⟩) 2 2) ∧
      w'.cell? ⟨W.heap.size + 1 + 1 + 1 + 1 + 1, 2, none⟩ = some (.slice (some ⟨W.heap.size + 1 + 1 + 1 + 1, 0, none⟩) 2 2) ∧ w'.cell? ⟨W.heap.size + 1 + 1 + 1 + 1 + 1, 3, none⟩ = some (.int .i64 3))
    (exact HQ.out _ (by assumption))
    (first
      | (go_at_call 9; refine (CB.out _ (X0.out.went hb0).below).mono ?_; rintro e wn ⟨a1, c1, rfl, h1, hb⟩; have k1 : Below wq.heap.size wq wn := Gr.step hb0 hb; have L1 := Lib.hid h1; clear h1 hb)
      | (go_at_call 10; refine (CC.out _ (X0.out.went k1).below a1 c1 L1.out).mono ?_; rintro e wm ⟨a2, c2, rfl, h2, hb⟩; have k2 : Below wq.heap.size wq wm := Gr.step k1 hb; have L2 := Lib.hid h2; clear h2 hb)
      | fail)
  have X2 := Lib.hid (X0.out.went k2)
  clear X0 HQ CB CC L1 k1 k2 hb0 hls
  obtain ⟨g0, g1, g2, g3⟩ := aw_box X2.out
  go_wp2_with (first
    | (go_at_call 7; refine (CH.out _ X2.out.below).mono ?_; rintro e w3 ⟨rfl, hb⟩; have X3 := Lib.hid (X2.out.went hb); have L3 := Lib.hid (L2.out.went hb); obtain ⟨g0, g1, g2, g3⟩ := aw_box X3.out; clear hb)
    | (go_at_call 8; refine (CR.out _ X3.out.below).mono ?_; rintro e w4 ⟨rfl, hb⟩; have X4 := Lib.hid (X3.out.went hb); have L4 := Lib.hid (L3.out.went hb); obtain ⟨g0, g1, g2, g3⟩ := aw_box X4.out; clear hb)
    | (go_at_call 11; refine (CS.out _ X4.out.below _ _ L4.out).mono ?_; rintro e w5 ⟨a5, c5, rfl, _, hb⟩; have X5 := Lib.hid (X4.out.went hb); have L5 := Lib.hid (L4.out.went hb); obtain ⟨g0, g1, g2, g3⟩ := aw_box X5.out; clear hb)
    | (go_at_call 12; refine (CK.out _ X5.out.below _ _ L5.out).mono ?_; rintro e w6 ⟨a6, c6, rfl, _, hb⟩; have X6 := Lib.hid (X5.out.went hb); clear hb))
  go_ret
  exact ⟨rfl, BL.out.trans (X6.out.below.mono BL.out.size)⟩

end Go.Proofs.YtkggpkbdekebcaaGreat.Im
