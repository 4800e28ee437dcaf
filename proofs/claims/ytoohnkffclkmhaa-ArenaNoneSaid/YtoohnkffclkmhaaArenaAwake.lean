/-
  The statements' own function awake of layer 19.
-/
import Derived.Test.YtoohnkffclkmhaaArenaShow
import Derived.Test.YtoohnkffclkmhaaArenaCheck
import Derived.Test.YtoohnkffclkmhaaArenaList
namespace Go.Proofs.Ytoohnkffclkmhaa.Tr
open Go.RowKit Go.Maps
open Go.Proofs.Ytoohnkffclkmhaa.Sep
open Go.Proofs.Ytoohnkffclkmhaa.Rw (Bk)
open Go.Proofs.Ytoohnkffclkmhaa.Gr (Gram Sh gv GAt Fits checkN cell_later cell_old cell_new boxed drawn Is bool_of int_of ivs iv Listed New)
set_option linter.unusedVariables false
set_option linter.unusedSimpArgs false

/-! ### By trees -/

section
variable {p : Nat} {S K : Nat → Prop} {T : List Nd} {w : World}
theorem TrAt.o (h : TrAt p S K T w) : ∃ L : List Nv, L.map Prod.fst = T ∧ TrO (.pointer (some ⟨p, 0, none⟩)) S K L w := by
  obtain ⟨L, v, e, h⟩ := h
  exact ⟨L, e, .inr ⟨p, v, rfl, h⟩⟩
theorem show_t (h : TrAt p S K T w) (hw : Wf T) (hs : Sh) (G : Gram) (i : Int) (hG : GAt hs G w) (hfi : Fits i) (hN : (visI T i).length ≤ 1000000) (m : Nat) (hm : ∀ s, (Gr.nameS G s).size ≤ m) (hmm : m ≤ 1000000) :
    Calls Try.prog 15 #[.pointer (some ⟨p, 0, none⟩), gv hs G, .int .i64 i] w (Is (.string ⟨(showI T G i).toArray⟩) w) := by
  obtain ⟨L, rfl, ho⟩ := h.o
  exact show_any _ S K L hs G i w ho hw hG hfi hN m hm hmm
theorem chk_t (h : TrAt p S K T w) (hw : Wf T) (hs : Sh) (G : Gram) (i : Int) (hG : GAt hs G w) (hfi : Fits i) (hN : (visI T i).length ≤ 1000000) :
    Calls Try.prog 14 #[.pointer (some ⟨p, 0, none⟩), gv hs G, .int .i64 i] w (Is (.bool (chkP T G i)) w) := by
  obtain ⟨L, rfl, ho⟩ := h.o
  exact chk_any _ S K L hs G i w ho hw hG hfi hN
theorem leaves_t (h : TrAt p S K T w) (hw : Wf T) (i : Int) (hfi : Fits i) (hN : (visI T i).length ≤ 1000000) :
    Calls Try.prog 9 #[.pointer (some ⟨p, 0, none⟩), .int .i64 i] w (Listed (lefL T (fun n => n.leaf) i) w) := by
  obtain ⟨L, rfl, ho⟩ := h.o
  exact leaves_any _ S K L i w ho hw hfi hN
theorem roots_t (h : TrAt p S K T w) : Calls Try.prog 8 #[.pointer (some ⟨p, 0, none⟩)] w (Listed (rootsP T) w) := by
  obtain ⟨L, rfl, ho⟩ := h.o
  exact roots_any ho
end

/-! ### The example -/

def G9 : Gram := { terms := [⟨#[65]⟩], nons := [⟨#[115]⟩, ⟨#[116]⟩], rules := [(2, [1, 3]), (3, [])], start := 2 }
def T1 : List Nd := [leafD 1 7]
def T2 : List Nd := [leafD 1 7, joinD 3 1 []]
def T3 : List Nd := [tk true (leafD 1 7), tk true (joinD 3 1 []), joinD 2 0 [0, 1]]

theorem g9_check : checkN G9 = 0 := by
  refine Gr.check_all (by decide +kernel) ?_ (by decide +kernel) (by decide +kernel) (by decide +kernel) (by decide +kernel)
  have h1 : Gr.plnS ⟨#[65]⟩ = true := by decide +kernel
  have h2 : Gr.plnS ⟨#[115]⟩ = true := by decide +kernel
  have h3 : Gr.plnS ⟨#[116]⟩ = true := by decide +kernel
  simp [Gr.formB, G9, h1, h2, h3]
theorem t2_eq : joinT (leafT [] 1 7) 3 1 [] = T2 ∧ joinR (leafT [] 1 7) [] = 1 := ⟨by kernel_rfl, by kernel_rfl⟩
theorem t3_eq : joinT T2 2 0 [0, 1] = T3 ∧ joinR T2 [0, 1] = 2 := ⟨by kernel_rfl, by kernel_rfl⟩
theorem t3_no : joinT T3 2 0 [0, 1] = T3 ∧ joinR T3 [0, 1] = -1 := ⟨by kernel_rfl, by kernel_rfl⟩
theorem t3_wf : Wf T3 := by
  have g := good_join (good_join (good_leaf good_nil 1 7) 3 1 []) 2 0 [0, 1]
  rw [t2_eq.1, t3_eq.1] at g
  exact g.wf
theorem t3_show : showI T3 G9 2 = [40, 115, 32, 65, 32, 40, 116, 41, 41] := by decide +kernel
theorem t3_lef : lefL T3 (fun n => n.leaf) 2 = [7] := by decide +kernel
theorem t3_roots : rootsP T3 = [2] := by decide +kernel
theorem t3_vis : (visI T3 2).length ≤ 1000000 ∧ (visI T3 5).length ≤ 1000000 := by decide +kernel
theorem t3_chk : chkP T3 G9 2 = true ∧ chkP T3 G9 5 = false := by
  have h1 : inP T3 2 = true ∧ (belI T3 2).all (derY T3 G9) = true ∧ inP T3 5 = false := by decide +kernel
  refine ⟨?_, ?_⟩
  · unfold chkP
    rw [h1.1, h1.2.1, decide_eq_true g9_check]
    rfl
  · unfold chkP
    rw [h1.2.2, Bool.false_and]
theorem g9_name (s : Int) : (Gr.nameS G9 s).size ≤ 1 := by
  unfold Gr.nameS
  split
  · decide
  · split
    · rename_i h1 h2
      have h3 : (Gr.top G9 : Int) = 3 := rfl
      have : s = 1 ∨ s = 2 ∨ s = 3 := by omega
      rcases this with rfl | rfl | rfl <;> decide
    · decide

/-- The world behind the literals of awake, and where they lie. -/
def aw (W : World) : World :=
  ((((W.alloc (.cells #[.string ⟨#[65]⟩] 9)).alloc (.cells #[.string ⟨#[115]⟩, .string ⟨#[116]⟩] 9)).alloc (.cells #[.int .i64 1, .int .i64 3] 3)).alloc
    (.cells #[.int .i64 2, .slice (some ⟨W.heap.size + 1 + 1, 0, none⟩) 2 2, .int .i64 3, .slice none 0 0] 59)).alloc
    (.cells #[.slice (some ⟨W.heap.size, 0, none⟩) 1 1, .slice (some ⟨W.heap.size + 1, 0, none⟩) 2 2, .slice (some ⟨W.heap.size + 1 + 1 + 1, 0, none⟩) 2 2, .int .i64 2] 43)
def ah (W : World) : Sh := ⟨some ⟨W.heap.size, 0, none⟩, 1, some ⟨W.heap.size + 1, 0, none⟩, 2, some ⟨W.heap.size + 1 + 1 + 1, 0, none⟩, 2⟩
def gcs (W : World) : Array Value := #[.slice (some ⟨W.heap.size, 0, none⟩) 1 1, .slice (some ⟨W.heap.size + 1, 0, none⟩) 2 2, .slice (some ⟨W.heap.size + 1 + 1 + 1, 0, none⟩) 2 2, .int .i64 2]
theorem aw_size (W : World) : (aw W).heap.size = W.heap.size + 5 := by simp [aw]
theorem aw_below (W : World) : Below W.heap.size W (aw W) := Gr.step (Gr.step (Gr.step (Gr.step (boxed _ _) (boxed _ _)) (boxed _ _)) (boxed _ _)) (boxed _ _)
theorem aw_box (W : World) : Bk (W.heap.size + 4) (gcs W) 43 (aw W) := Bk.new _ _ _ _ (by simp)
theorem aw_at (W : World) : GAt (ah W) G9 (aw W) := by
  have fits : ∀ x : Int, -1000 ≤ x → x ≤ 1000 → Fits x := fun x h k => ⟨by omega, by omega⟩
  refine ⟨fun i hi => ?_, fun i hi => ?_, fun i hi => ?_, by simp [ah, G9], by simp [G9], by simp [G9], by simp [ah, G9], by simp [G9], ⟨?_, ?_, fits _ (by decide) (by decide), ?_, ?_⟩⟩
  · refine ⟨W.heap.size, 0, rfl, ?_⟩
    have h2 : i < 1 := hi
    obtain rfl : i = 0 := by omega
    exact cell_old (cell_old (cell_old (cell_old (cell_new rfl rfl))))
  · refine ⟨W.heap.size + 1, 0, rfl, ?_⟩
    have h2 : i < 2 := hi
    have : i = 0 ∨ i = 1 := by omega
    rcases this with rfl | rfl
    · exact cell_old (cell_old (cell_old (cell_new (by simp) rfl)))
    · exact cell_old (cell_old (cell_old (cell_new (by simp) rfl)))
  · have h2 : i < 2 := hi
    have : i = 0 ∨ i = 1 := by omega
    rcases this with rfl | rfl
    · refine ⟨W.heap.size + 1 + 1 + 1, 0, some ⟨W.heap.size + 1 + 1, 0, none⟩, 2, rfl, cell_old (cell_new (by simp) rfl), cell_old (cell_new (by simp) rfl), fun j hj => ?_, by simp [G9], by simp [G9]⟩
      refine ⟨W.heap.size + 1 + 1, 0, rfl, ?_⟩
      have h3 : j < 2 := hj
      have : j = 0 ∨ j = 1 := by omega
      rcases this with rfl | rfl
      · exact cell_old (cell_old (cell_new (by simp) rfl))
      · exact cell_old (cell_old (cell_new (by simp) rfl))
    · exact ⟨W.heap.size + 1 + 1 + 1, 0, none, 0, rfl, cell_old (cell_new (by simp) rfl), cell_old (cell_new (by simp) rfl), fun j hj => by simp [G9] at hj, by simp [G9], by simp [G9]⟩
  · intro s hs
    simp only [G9, List.mem_cons, List.not_mem_nil, or_false] at hs
    subst hs
    simp [ByteArray.size]
  · intro s hs
    simp only [G9, List.mem_cons, List.not_mem_nil, or_false] at hs
    rcases hs with rfl | rfl <;> simp [ByteArray.size]
  · intro r hr
    simp only [G9, List.mem_cons, List.not_mem_nil, or_false] at hr
    rcases hr with rfl | rfl <;> exact fits _ (by decide) (by decide)
  · intro r hr x hx
    simp only [G9, List.mem_cons, List.not_mem_nil, or_false] at hr
    rcases hr with rfl | rfl
    · simp only [List.mem_cons, List.not_mem_nil, or_false] at hx
      rcases hx with rfl | rfl <;> exact fits _ (by decide) (by decide)
    · cases hx

/-- What stays through awake's calls. -/
structure Aw (W : World) (p : Nat) (T : List Nd) (w : World) : Prop where
  low : Below (W.heap.size + 5) (aw W) w
  tr : ∃ S K, TrAt p S K T w ∧ ∀ x, S x → W.heap.size + 5 ≤ x
section
variable {W w w' : World} {p : Nat} {T T' : List Nd}
theorem Aw.big (h : Aw W p T w) : W.heap.size + 5 ≤ w.heap.size := by have := h.low.size; rwa [aw_size] at this
theorem Aw.below (h : Aw W p T w) : Below W.heap.size W w := (aw_below W).trans (h.low.mono (by omega))
theorem Aw.at_ (h : Aw W p T w) : GAt (ah W) G9 w := (aw_at W).below h.low (by rw [aw_size]; exact Nat.le_refl _)
theorem Aw.box (h : Aw W p T w) : Bk (W.heap.size + 4) (gcs W) 43 w := (h.low.block _ (by omega)).trans (aw_box W)
theorem Aw.went (h : Aw W p T w) (hb : Below w.heap.size w w') : Aw W p T w' := by
  obtain ⟨S, K, h1, h2⟩ := h.tr
  exact ⟨h.low.trans (hb.mono h.big), S, K, h1.went hb, h2⟩
theorem Aw.made {S S' K' : Nat → Prop} (h : Aw W p T w) (hS : ∀ x, S x → W.heap.size + 5 ≤ x) (ht : TrAt p S' K' T' w') (he : Ext S' S w) (hf : Fr S w w') : Aw W p T' w' := by
  refine ⟨h.low.trans (hf.below hS h.big), S', K', ht, fun x hx => ?_⟩
  rcases he x hx with e | e
  · exact hS x e
  · have := h.big
    omega
/-- A call that makes a node. -/
def Md (W : World) (p : Nat) (r : Int) (T' : List Nd) (e : Ending) (w' : World) : Prop := e = .returned (.int .i64 r) ∧ Aw W p T' w'
theorem Aw.leaf (h : Aw W p T w) (hl : T.length < 1000) (s n : Int) : Calls Try.prog 6 #[.pointer (some ⟨p, 0, none⟩), .int .i64 s, .int .i64 n] w (Md W p (T.length : Int) (leafT T s n)) := by
  obtain ⟨S, K, h1, h2⟩ := h.tr
  refine (leaf_any h1 hl s n).mono ?_
  rintro e w' ⟨rfl, S', K', k1, k2, k3, k4⟩
  exact ⟨rfl, h.made h2 k1 k2 k4⟩
theorem Aw.join0 (h : Aw W p T w) (hl : T.length < 1000) (s r : Int) : Calls Try.prog 7 #[.pointer (some ⟨p, 0, none⟩), .int .i64 s, .int .i64 r, .slice none 0 0] w (Md W p (joinR T []) (joinT T s r [])) := by
  obtain ⟨S, K, h1, h2⟩ := h.tr
  refine (join_any s r [] none 0 h1 hl (.nil _ _) (fun b o e _ => by cases e) (by simp) (by simp)).mono ?_
  rintro e w' ⟨rfl, S', K', k1, k2, k3, k4⟩
  exact ⟨rfl, h.made h2 k1 k2 k4⟩
/-- Children in a literal. -/
theorem Aw.join2 (h : Aw W p T w) (hl : T.length < 1000) (s r x y : Int) :
    Calls Try.prog 7 #[.pointer (some ⟨p, 0, none⟩), .int .i64 s, .int .i64 r, .slice (some ⟨w.heap.size, 0, none⟩) 2 2] (w.alloc (.cells #[.int .i64 x, .int .i64 y] 3)) (Md W p (joinR T [x, y]) (joinT T s r [x, y])) := by
  have hb := boxed w (.cells #[.int .i64 x, .int .i64 y] 3)
  have hinn : ∀ S K, TrAt p S K T w → Inn S w := fun S K ⟨_, _, _, hm⟩ => hm.inn
  obtain ⟨S, K, h1, h2⟩ := h.tr
  have h3 := hinn S K h1
  have ha := h.went hb
  refine (join_any s r [x, y] (some ⟨w.heap.size, 0, none⟩) 2 (h1.went hb) hl (fun j hj => ?_) (fun b o e _ hS => ?_) (by simp) (by simp)).mono ?_
  · refine ⟨w.heap.size, 0, rfl, ?_⟩
    have h3 : j < 2 := by simpa [ivs] using hj
    have : j = 0 ∨ j = 1 := by omega
    rcases this with rfl | rfl
    · exact cell_new rfl rfl
    · exact cell_new rfl rfl
  · injection e with e
    injection e with e1 _ _
    subst e1
    have := h3 _ hS
    omega
  · rintro e w' ⟨rfl, S', K', k1, k2, k3, k4⟩
    exact ⟨rfl, ha.made h2 k1 k2 k4⟩
end

set_option maxHeartbeats 4000000 in
set_option maxRecDepth 100000 in
theorem awake_any (W : World) : Calls Try.prog 10 #[] W (Is (.bool true) W) := by
  have N := Lib.hid (new_any (aw W))
  have A0 := Lib.hid (show ∀ w1, Below (aw W).heap.size (aw W) w1 → TrAt (aw W).heap.size (fun k => k = (aw W).heap.size) (fun _ => False) [] w1 → Aw W (aw W).heap.size [] w1 from fun w1 hb ht =>
    ⟨by rw [← aw_size]; exact hb, _, _, ht, fun x e => by subst e; rw [aw_size]; exact Nat.le_refl _⟩)
  have J2 := Lib.hid (show ∀ p w, Aw W p (leafT [] 1 7) w → Calls Try.prog 7 #[.pointer (some ⟨p, 0, none⟩), .int .i64 3, .int .i64 1, .slice none 0 0] w (Md W p 1 T2) from fun p w h => by
    have := h.join0 (by decide) 3 1
    rwa [t2_eq.1, t2_eq.2] at this)
  have J3 := Lib.hid (show ∀ p w, Aw W p T2 w → Calls Try.prog 7 #[.pointer (some ⟨p, 0, none⟩), .int .i64 2, .int .i64 0, .slice (some ⟨w.heap.size, 0, none⟩) 2 2] (w.alloc (.cells #[.int .i64 0, .int .i64 1] 3)) (Md W p 2 T3) from fun p w h => by
    have := h.join2 (by decide) 2 0 0 1
    rwa [t3_eq.1, t3_eq.2] at this)
  have J4 := Lib.hid (show ∀ p w, Aw W p T3 w → Calls Try.prog 7 #[.pointer (some ⟨p, 0, none⟩), .int .i64 2, .int .i64 0, .slice (some ⟨w.heap.size, 0, none⟩) 2 2] (w.alloc (.cells #[.int .i64 0, .int .i64 1] 3)) (Md W p (-1) T3) from fun p w h => by
    have := h.join2 (by decide) 2 0 0 1
    rwa [t3_no.1, t3_no.2] at this)
  have f2 : ∀ x : Int, 0 ≤ x → x ≤ 10 → Fits x := fun x h k => ⟨by omega, by omega⟩
  have SHO := Lib.hid (show ∀ p w, Aw W p T3 w → Calls Try.prog 15 #[.pointer (some ⟨p, 0, none⟩), .agg (gcs W), .int .i64 2] w (Is (.string ⟨#[40, 115, 32, 65, 32, 40, 116, 41, 41]⟩) w) from fun p w h => by
    obtain ⟨S, K, h1, _⟩ := h.tr
    have := show_t h1 t3_wf (ah W) G9 2 h.at_ (f2 2 (by decide) (by decide)) t3_vis.1 1 g9_name (by decide)
    rw [t3_show] at this
    exact this)
  have CH2 := Lib.hid (show ∀ p w, Aw W p T3 w → Calls Try.prog 14 #[.pointer (some ⟨p, 0, none⟩), .agg (gcs W), .int .i64 2] w (Is (.bool true) w) from fun p w h => by
    obtain ⟨S, K, h1, _⟩ := h.tr
    have := chk_t h1 t3_wf (ah W) G9 2 h.at_ (f2 2 (by decide) (by decide)) t3_vis.1
    rw [t3_chk.1] at this
    exact this)
  have CH5 := Lib.hid (show ∀ p w, Aw W p T3 w → Calls Try.prog 14 #[.pointer (some ⟨p, 0, none⟩), .agg (gcs W), .int .i64 5] w (Is (.bool false) w) from fun p w h => by
    obtain ⟨S, K, h1, _⟩ := h.tr
    have := chk_t h1 t3_wf (ah W) G9 5 h.at_ (f2 5 (by decide) (by decide)) t3_vis.2
    rw [t3_chk.2] at this
    exact this)
  have LEF := Lib.hid (show ∀ p w, Aw W p T3 w → Calls Try.prog 9 #[.pointer (some ⟨p, 0, none⟩), .int .i64 2] w (Listed [7] w) from fun p w h => by
    obtain ⟨S, K, h1, _⟩ := h.tr
    have := leaves_t h1 t3_wf 2 (f2 2 (by decide) (by decide)) t3_vis.1
    rwa [t3_lef] at this)
  have ROO := Lib.hid (show ∀ p w, Aw W p T3 w → Calls Try.prog 8 #[.pointer (some ⟨p, 0, none⟩)] w (Listed [2] w) from fun p w h => by
    obtain ⟨S, K, h1, _⟩ := h.tr
    have := roots_t h1
    rwa [t3_roots] at this)
  have LEA := Lib.hid (show ∀ p w, Aw W p [] w → Calls Try.prog 6 #[.pointer (some ⟨p, 0, none⟩), .int .i64 1, .int .i64 7] w (Md W p 0 (leafT [] 1 7)) from fun p w h => h.leaf (by decide) 1 7)
  have BX := Lib.hid (show ∀ p T w, Aw W p T w → w.cell? ⟨W.heap.size + 1 + 1 + 1 + 1, 0, none⟩ = some (.slice (some ⟨W.heap.size, 0, none⟩) 1 1) ∧ w.cell? ⟨W.heap.size + 1 + 1 + 1 + 1, 1, none⟩ = some (.slice (some ⟨W.heap.size + 1, 0, none⟩) 2 2) ∧ w.cell? ⟨W.heap.size + 1 + 1 + 1 + 1, 2, none⟩ = some (.slice (some ⟨W.heap.size + 1 + 1 + 1, 0, none⟩) 2 2) ∧ w.cell? ⟨W.heap.size + 1 + 1 + 1 + 1, 3, none⟩ = some (.int .i64 2) from fun p T w h => by
    have q := h.box
    exact ⟨q.cell rfl, q.cell rfl, q.cell rfl, q.cell rfl⟩)
  unfold gcs at SHO CH2 CH5
  go_enter Try.func10, Try.ntmps10
  go_wp2_with fail
  refine N.out.mono ?_
  rintro e w1 ⟨rfl, ht, hb⟩
  have A := Lib.hid (A0.out w1 hb ht)
  clear ht hb N A0
  generalize (aw W).heap.size = p at A ⊢
  go_wp2_with fail
  refine (LEA.out p _ A.out).mono ?_
  rintro e w2 ⟨rfl, a2⟩
  have A2 := Lib.hid a2
  clear a2 LEA A
  go_wp2_with fail
  refine (J2.out p _ A2.out).mono ?_
  rintro e w3 ⟨rfl, a3⟩
  have A3 := Lib.hid a3
  clear a3 J2 A2
  go_wp2_with fail
  refine (J3.out p _ A3.out).mono ?_
  rintro e w4 ⟨rfl, a4⟩
  have A4 := Lib.hid a4
  obtain ⟨x0, x1, x2, x3⟩ := BX.out _ _ _ A4.out
  clear a4 J3 A3
  go_wp2_with fail
  refine (SHO.out p _ A4.out).mono ?_
  rintro e w5 ⟨rfl, hb⟩
  have A5 := Lib.hid (A4.out.went hb)
  clear hb SHO A4 x0 x1 x2 x3
  obtain ⟨x0, x1, x2, x3⟩ := BX.out _ _ _ A5.out
  go_wp2_with fail
  refine (CH2.out p _ A5.out).mono ?_
  rintro e w6 ⟨rfl, hb⟩
  have A6 := Lib.hid (A5.out.went hb)
  clear hb CH2 A5 x0 x1 x2 x3
  obtain ⟨x0, x1, x2, x3⟩ := BX.out _ _ _ A6.out
  go_wp2_with fail
  refine (CH5.out p _ A6.out).mono ?_
  rintro e w7 ⟨rfl, hb⟩
  have A7 := Lib.hid (A6.out.went hb)
  clear hb CH5 A6 x0 x1 x2 x3
  go_wp2_with fail
  refine (LEF.out p _ A7.out).mono ?_
  rintro e w8 ⟨a8, c8, rfl, -, -, hb⟩
  have A8 := Lib.hid (A7.out.went hb)
  clear hb A7
  go_wp2_with fail
  refine (LEF.out p _ A8.out).mono ?_
  rintro e w9 ⟨a9, c9, rfl, hr9, -, hb⟩
  have A9 := Lib.hid (A8.out.went hb)
  obtain ⟨b9, o9, rfl, hc9⟩ := hr9 0 (by decide)
  simp only [ivs, iv, List.map_cons, List.getElem_cons_zero, Nat.add_zero] at hc9
  clear hb A8 LEF hr9
  go_wp2_with fail
  refine (ROO.out p _ A9.out).mono ?_
  rintro e w10 ⟨a10, c10, rfl, -, -, hb⟩
  have A10 := Lib.hid (A9.out.went hb)
  clear hb A9 ROO hc9
  go_wp2_with fail
  refine (J4.out p _ A10.out).mono ?_
  rintro e w11 ⟨rfl, a11⟩
  have A11 := Lib.hid a11
  clear a11 J4 A10
  go_wp2_with fail
  go_ret
  exact ⟨rfl, A11.out.below⟩

end Go.Proofs.Ytoohnkffclkmhaa.Tr
