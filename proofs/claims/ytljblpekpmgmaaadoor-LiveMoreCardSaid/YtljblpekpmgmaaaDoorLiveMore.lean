/-
  The walk of the statement on a rule more. Condition: the library's table in math/bits holds its numbers; the rules are fewer than what fills the form's reach.
-/
import Derived.Test.YtljblpekpmgmaaaDoorLiveAwake
import Derived.Test.YtljblpekpmgmaaaDoorMArg
import Derived.Test.YtljblpekpmgmaaaDoorGramMuch
namespace Go.Proofs.YtljblpekpmgmaaaDoor.Lv
open Go.RowKit Go.Maps
open Go.Proofs.YtljblpekpmgmaaaDoor.Gr
open Go.Proofs.YtljblpekpmgmaaaDoor.Rw (Bk gc gc_length two_at info_rule2 rule2_one row_shape step_append_lie step_append_rows row_none)
open Go.Proofs.YtljblpekpmgmaaaDoor.Bt (Tab)
set_option linter.unusedVariables false
set_option linter.unusedSimpArgs false

/-- The grammar with a rule more. -/
def moreG (G : Gram) (r : Int × List Int) : Gram := { G with rules := G.rules ++ [r] }
theorem more_len (G : Gram) (r : Int × List Int) : (moreG G r).rules.length = G.rules.length + 1 := by simp [moreG]
theorem more_prod {G : Gram} {r : Int × List Int} (h : checkN G = 0) (h2 : checkN (moreG G r) = 0) : ∀ x ∈ prodL G, x ∈ prodL (moreG G r) := fun x hx =>
  (mem_prodL h2).2 (prod_more (G := G) (H := moreG G r) (fun _ => rfl) (fun q hq => List.mem_append_left _ hq) ((mem_prodL h).1 hx))
theorem more_rch {G : Gram} {r : Int × List Int} (h : checkN G = 0) (h2 : checkN (moreG G r) = 0) : ∀ x ∈ rchL G, x ∈ rchL (moreG G r) := fun x hx =>
  (mem_rchL h2).2 (rch_more (G := G) (H := moreG G r) rfl (fun q hq => List.mem_append_left _ hq) ((mem_rchL h).1 hx))

theorem flat_len (L : List ((Int × List Int) × Value)) (n : Nat) (h : L.length = n) : (L.flatMap gc).length = n * 2 := by
  subst h
  induction L with
  | nil => rfl
  | cons a r ih => rw [List.flatMap_cons, List.length_append, ih, gc_length, List.length_cons]; omega
/-- A grammar's rules as the values in memory. -/
theorem rules_list {a : Option Addr} {w : World} : ∀ {R : List (Int × List Int)}, RulesAt a R w → ∃ L : List ((Int × List Int) × Value), L.map Prod.fst = R ∧ (∀ x ∈ L, RV x.1.2 x.2 w) ∧ (a = none → R.length = 0) ∧ ∀ p, a = some p → ∀ j u, (L.flatMap gc)[j]? = some u → w.cell? (p.add j) = some u := by
  intro R h
  have each : ∀ i, i < R.length → ∃ v : Value, RV (R.getD i (0, [])).2 v w ∧ ∀ p, a = some p → w.cell? (p.add (i * 2)) = some (.int .i64 (R.getD i (0, [])).1) ∧ w.cell? (p.add (i * 2 + 1)) = some v := fun i hi => by
    obtain ⟨b, o, ra, rc, rfl, h1, h2, h3, h4, h5⟩ := h i hi
    have e : R.getD i (0, []) = R[i] := by simp [List.getD_eq_getElem?_getD, List.getElem?_eq_getElem hi]
    rw [e]
    refine ⟨_, ⟨ra, rc, rfl, h3, h4, h5⟩, fun p hp => ?_⟩
    injection hp with hp
    subst hp
    rw [WideShapes.add_plain, WideShapes.add_plain]
    exact ⟨h1, h2⟩
  obtain ⟨f, hf⟩ : ∃ f : Nat → Value, ∀ i, i < R.length → RV (R.getD i (0, [])).2 (f i) w ∧ ∀ p, a = some p → w.cell? (p.add (i * 2)) = some (.int .i64 (R.getD i (0, [])).1) ∧ w.cell? (p.add (i * 2 + 1)) = some (f i) := ⟨fun i => if h : i < R.length then Classical.choose (each i h) else undef, fun i hi => by simp only [hi, dif_pos]; exact Classical.choose_spec (each i hi)⟩
  refine ⟨(List.range R.length).map fun i => (R.getD i (0, []), f i), ?_, fun x hx => ?_, fun ha => ?_, fun p hp j u hu => ?_⟩
  · refine List.ext_getElem (by simp) fun i h1 h2 => ?_
    simp [List.getD_eq_getElem?_getD, List.getElem?_eq_getElem h2]
  · obtain ⟨i, hi, rfl⟩ := List.mem_map.1 hx
    exact (hf i (List.mem_range.1 hi)).1
  · rcases hR : R.length with _ | n
    · rfl
    · obtain ⟨b, o, ra, rc, e, _⟩ := h 0 (by omega)
      rw [ha] at e
      cases e
  · have hlen : (((List.range R.length).map fun i => (R.getD i (0, []), f i)).flatMap gc).length = R.length * 2 := flat_len _ _ (by simp)
    have hj : j < R.length * 2 := by rw [← hlen]; exact (List.getElem?_eq_some_iff.1 hu).1
    have hi : j / 2 < R.length := by omega
    have hi2 : j / 2 < ((List.range R.length).map fun i => (R.getD i (0, []), f i)).length := by simpa using hi
    have t := two_at gc gc_length ((List.range R.length).map fun i => (R.getD i (0, []), f i)) (j / 2) hi2 (j % 2) (by omega)
    have e : j / 2 * 2 + j % 2 = j := by omega
    rw [e, hu, List.getElem_map, List.getElem_range] at t
    obtain ⟨c1, c2⟩ := (hf (j / 2) hi).2 p hp
    rcases (show j % 2 = 0 ∨ j % 2 = 1 by omega) with h0 | h0
    · have e2 : j / 2 * 2 = j := by omega
      rw [h0] at t
      rw [e2] at c1
      simp only [gc, List.getElem?_cons_zero, Option.some.injEq] at t
      rw [t]
      exact c1
    · have e2 : j / 2 * 2 + 1 = j := by omega
      rw [h0] at t
      rw [e2] at c2
      simp only [gc, List.getElem?_cons_succ, List.getElem?_cons_zero, Option.some.injEq] at t
      rw [t]
      exact c2

theorem more_at {h : Sh} {G : Gram} {r : Int × List Int} {ra : Option Addr} {rc : Nat} {W w : World} {base c : Nat} {a : Option Addr} (k : GAt h G W) (kr : RuleArg r ra rc W) (hb : Below W.heap.size W w) (hg : GShare W base (G.rules ++ [r]) (.slice a (G.rules ++ [r]).length c) w) (hlt : G.rules.length < 4398046511104) :
    GAt ⟨h.a1, h.c1, h.a2, h.c2, a, c⟩ (moreG G r) w := by
  have k2 := k.went hb
  obtain ⟨a', c', e, hc⟩ := hg.len
  simp only [Value.slice.injEq] at e
  obtain ⟨rfl, _, rfl⟩ := e
  refine ⟨k2.terms, k2.nons, hg.rules hb, k2.t1, k2.t2, k2.n2, hc, by rw [more_len]; omega, ⟨k.ok.terms, k.ok.nons, k.ok.start, fun q hq => ?_, fun q hq => ?_⟩⟩
  · rcases List.mem_append.1 (show q ∈ G.rules ++ [r] from hq) with h1 | h1
    · exact k.ok.left q h1
    · rw [List.mem_singleton] at h1
      subst h1
      exact kr.left
  · rcases List.mem_append.1 (show q ∈ G.rules ++ [r] from hq) with h1 | h1
    · exact k.ok.right q h1
    · rw [List.mem_singleton] at h1
      subst h1
      exact kr.right

theorem build_none_rule (w : World) : (Instr.buildSlice 23 0 #[]).run Tryd.prog w = .ok (.slice (some ⟨w.heap.size, 0, none⟩) 0 0) (w.alloc (.cells #[] 38)) := by kernel_rfl
theorem heap_new (w : World) (o : Obj) : (w.alloc o).heap[w.heap.size]? = some o := Deep.blk_alloc_new _ _
theorem heap_at {w : World} {o : Obj} {q : Nat} (h : q = w.heap.size) : (w.alloc o).heap[q]? = some o := by
  subst h
  exact heap_new _ _
theorem lit_of {w : World} {base q : Nat} {x : (Int × List Int) × Value} (hq : w.heap[q]? = some (.cells #[.int .i64 x.1.1, x.2] 38 (0, 0))) (hb : base ≤ q) : w.ownsRow base 38 2 (.slice (some ⟨q, 0, none⟩) 1 1) 1 (gc x) :=
  ⟨by simp [gc], .inr ⟨q, 1, _, rfl, hb, hq, Nat.le_refl _, by unfold maxLen; omega, by simp, by simp [gc]⟩⟩
theorem heap_old {w : World} {o o' : Obj} {q : Nat} (h : w.heap[q]? = some o') : (w.alloc o).heap[q]? = some o' := by
  have hq : q < w.heap.size := by
    rcases Nat.lt_or_ge q w.heap.size with h1 | h1
    · exact h1
    · rw [Array.getElem?_eq_none h1] at h
      cases h
  rw [Below.heap_alloc _ _ _ hq]
  exact h

/-- Behind the grammar with a rule more. -/
structure MoreMid (w : World) (h : Sh) (G : Gram) (r : Int × List Int) (ra : Option Addr) (rc n : Nat) (a5 : Option Addr) (c5 : Nat) (wx : World) : Prop where
  below : Below w.heap.size w wx
  q0 : Bk w.heap.size #[.slice h.a1 G.terms.length h.c1, .slice h.a2 G.nons.length h.c2, .slice h.a3 G.rules.length h.c3, .int .i64 G.start] 25 wx
  q1 : Bk (w.heap.size + 1) #[.int .i64 r.1, .slice ra r.2.length rc] 38 wx
  q2 : Bk (w.heap.size + 1 + 1) #[.slice h.a1 G.terms.length h.c1, .slice h.a2 G.nons.length h.c2, .slice a5 n c5, .int .i64 G.start] 25 wx
  sh : ∃ base, GShare w base (G.rules ++ [r]) (.slice a5 n c5) wx
theorem MoreMid.of {w W w5 : World} {h : Sh} {G : Gram} {r : Int × List Int} {ra a5 : Option Addr} {rc n c5 : Nat} (BW : Below w.heap.size w W) (hW : w.heap.size + 1 + 1 < W.heap.size)
    (q0 : Bk w.heap.size #[.slice h.a1 G.terms.length h.c1, .slice h.a2 G.nons.length h.c2, .slice h.a3 G.rules.length h.c3, .int .i64 G.start] 25 W) (q1 : Bk (w.heap.size + 1) #[.int .i64 r.1, .slice ra r.2.length rc] 38 W)
    (q2 : Bk (w.heap.size + 1 + 1) #[.slice h.a1 G.terms.length h.c1, .slice h.a2 G.nons.length h.c2, .slice h.a3 G.rules.length h.c3, .int .i64 G.start] 25 W)
    (K5 : Below W.heap.size W w5) (S5 : GShare w W.heap.size (G.rules ++ [r]) (.slice a5 n c5) w5) : MoreMid w h G r ra rc n a5 c5 (w5.setCell ⟨w.heap.size + 1 + 1, 2, none⟩ (.slice a5 n c5)) := by
  have hF : Sep.Fr (fun k => k = w.heap.size + 1 + 1) w5 (w5.setCell ⟨w.heap.size + 1 + 1, 2, none⟩ (.slice a5 n c5)) := (Sep.Fr.refl (fun k => k = w.heap.size + 1 + 1) w5).setCell ⟨w.heap.size + 1 + 1, 2, none⟩ rfl _
  refine ⟨(Gr.step BW K5).setCell (show w.heap.size ≤ w.heap.size + 1 + 1 by omega) _, (q0.went K5).fr hF (by omega), (q1.went K5).fr hF (by omega), (q2.went K5).set (j := 2) (by simp) _, W.heap.size, S5.at_ fun g hg => hF.block g ?_ ?_⟩
  · obtain ⟨L, _, h2, _⟩ := S5
    exact (h2.lt g hg).2
  · obtain ⟨L, _, h2, _⟩ := S5
    have := (h2.lt g hg).1
    omega
def MoreAt (w : World) (h : Sh) (G : Gram) (r : Int × List Int) (ra : Option Addr) (rc : Nat) (wx : World) : Prop := ∃ n a5 c5, n = (moreG G r).rules.length ∧ MoreMid w h G r ra rc n a5 c5 wx

set_option maxRecDepth 100000 in
set_option maxHeartbeats 16000000 in
theorem more_law (h : Sh) (G : Gram) (r : Int × List Int) (ra : Option Addr) (rc : Nat) (w : World) (k : GAt h G w) (kr : RuleArg r ra rc w) (hlt : G.rules.length < 4398046511104) (hT : Tab w) :
    Calls Tryd.prog 5 #[gv h G, .agg #[.int .i64 r.1, .slice ra r.2.length rc]] w (Is (.bool true) w) := by
  obtain ⟨i0, hii, hz0, hz1, hz2⟩ := info_parts info_rule2
  obtain ⟨a1, c1, a2, c2, a3, c3⟩ := h
  obtain ⟨L, hL1, hL2, hL3, hL4⟩ := rules_list k.rules
  have HL1 := Lib.hid hL1
  have HL2 := Lib.hid hL2
  have KG := Lib.hid k
  have KR := Lib.hid kr
  have TB := Lib.hid (fun w1 (b : Below w.heap.size w w1) => hT.below b hT.pos)
  have hLl : L.length = G.rules.length := by rw [← hL1, List.length_map]
  have b1 := boxed w (.cells #[.slice a1 G.terms.length c1, .slice a2 G.nons.length c2, .slice a3 G.rules.length c3, .int .i64 G.start] 25)
  have b2 := boxed (w.alloc (.cells #[.slice a1 G.terms.length c1, .slice a2 G.nons.length c2, .slice a3 G.rules.length c3, .int .i64 G.start] 25)) (.cells #[.int .i64 r.1, .slice ra r.2.length rc] 38)
  have b3 := boxed ((w.alloc (.cells #[.slice a1 G.terms.length c1, .slice a2 G.nons.length c2, .slice a3 G.rules.length c3, .int .i64 G.start] 25)).alloc (.cells #[.int .i64 r.1, .slice ra r.2.length rc] 38)) (.cells #[.slice a1 G.terms.length c1, .slice a2 G.nons.length c2, .slice a3 G.rules.length c3, .int .i64 G.start] 25)
  have BW := Lib.hid (Gr.step (Gr.step b1 b2) b3)
  have Q0 := Lib.hid ((Bk.new w #[.slice a1 G.terms.length c1, .slice a2 G.nons.length c2, .slice a3 G.rules.length c3, .int .i64 G.start] 25 _ rfl).went (Gr.step b2 b3))
  have Q1 := Lib.hid ((Bk.new (w.alloc (.cells #[.slice a1 G.terms.length c1, .slice a2 G.nons.length c2, .slice a3 G.rules.length c3, .int .i64 G.start] 25)) #[.int .i64 r.1, .slice ra r.2.length rc] 38 (w.heap.size + 1) (by simp)).went b3)
  have Q2 := Lib.hid (Bk.new ((w.alloc (.cells #[.slice a1 G.terms.length c1, .slice a2 G.nons.length c2, .slice a3 G.rules.length c3, .int .i64 G.start] 25)).alloc (.cells #[.int .i64 r.1, .slice ra r.2.length rc] 38)) #[.slice a1 G.terms.length c1, .slice a2 G.nons.length c2, .slice a3 G.rules.length c3, .int .i64 G.start] 25 (w.heap.size + 1 + 1) (by simp))
  clear k kr hT b1 b2 b3 hL1 hL2
  unfold gv
  dsimp only
  go_enter Tryd.func5, Tryd.ntmps5
  go_wp2
  go_cut [] (fun wx => MoreAt w ⟨a1, c1, a2, c2, a3, c3⟩ G r ra rc wx)
  case first =>
    generalize hW : (((w.alloc (.cells #[.slice a1 G.terms.length c1, .slice a2 G.nons.length c2, .slice a3 G.rules.length c3, .int .i64 G.start] 25)).alloc (.cells #[.int .i64 r.1, .slice ra r.2.length rc] 38)).alloc (.cells #[.slice a1 G.terms.length c1, .slice a2 G.nons.length c2, .slice a3 G.rules.length c3, .int .i64 G.start] 25)) = W at *
    clear hW
    have hbd := drawn W
    have SRC := Lib.hid (fun w1 (b : Below W.heap.size W w1) => fun p hp j u hu => cell_later (Gr.step BW.out b) (hL4 p hp j u hu))
    have HN := Lib.hid hL3
    clear hL3 hL4
    obtain ⟨x0, x1, x2, x3, xf⟩ := Q0.out.four
    obtain ⟨y0, y1, yf⟩ := Q1.out.two
    obtain ⟨z0, z1, z2, z3, zf⟩ := Q2.out.four
    have hq2 : w.heap.size + 1 + 1 < W.heap.size := Q2.out.lt
    have hq1 : w.heap.size + 1 < W.heap.size := by omega
    have hq0 : w.heap.size < W.heap.size := by omega
    have hbn := build_none_rule
    have hsW : W.drew.heap.size = W.heap.size := rfl
    have one : ∀ u ∈ L.flatMap gc, u.oneCell' = true := fun u hu => by
      obtain ⟨x, hx, hu⟩ := List.mem_flatMap.1 hu
      obtain ⟨ra', rc', e, _⟩ := HL2.out x hx
      simp only [gc, e, List.mem_cons, List.not_mem_nil, or_false] at hu
      rcases hu with rfl | rfl <;> rfl
    have ONE := Lib.hid one
    clear one
    have HV := Lib.hid KR.out.rv
    go_region_law (first
      | (refine step_append_lie _ (by rfl) (.tmp 7) (.tmp 9) 23 (by rfl) W.heap.size 38 i0 (.agg #[.int .i64 0, .slice none 0 0]) 2 32 Tryd.underlying23 hii hz0 hz1 hz2 rfl (by decide) _ 0 [] (by rfl) (row_none (by first | exact heap_new _ _ | exact heap_at (by simp) | exact heap_old (heap_new _ _)) (by first | exact Nat.le_refl _ | (simp; done) | (simp; omega))) a3 G.rules.length c3 (L.flatMap gc) (by rfl) (flat_len L _ hLl) (SRC.out _ (by first | exact Gr.step (boxed _ _) (drawn _) | exact Gr.step (drawn _) (boxed _ _) | exact Gr.step (Gr.step (boxed _ _) (drawn _)) (boxed _ _) | exact Gr.step (Gr.step (boxed _ _) (boxed _ _)) (drawn _) | exact Gr.step (Gr.step (drawn _) (boxed _ _)) (boxed _ _))) HN.out ONE.out (by unfold maxLen; omega) (by omega) (by first | (simp; done) | (simp; omega)) ?_; intro v4 w4 hown4 hg4 hloc4; obtain ⟨a4, c4, rfl⟩ := row_shape hown4; rw [Nat.zero_add] at hown4 ⊢; have K4 := Lib.hid (show Below W.heap.size W w4 from Below.grown (by first | exact Gr.step (boxed _ _) (drawn _) | exact Gr.step (drawn _) (boxed _ _) | exact Gr.step (Gr.step (boxed _ _) (drawn _)) (boxed _ _) | exact Gr.step (Gr.step (boxed _ _) (boxed _ _)) (drawn _) | exact Gr.step (Gr.step (drawn _) (boxed _ _)) (boxed _ _)) hg4 (Below.size (by first | exact Gr.step (boxed _ _) (drawn _) | exact Gr.step (drawn _) (boxed _ _) | exact Gr.step (Gr.step (boxed _ _) (drawn _)) (boxed _ _) | exact Gr.step (Gr.step (boxed _ _) (boxed _ _)) (drawn _) | exact Gr.step (Gr.step (drawn _) (boxed _ _)) (boxed _ _))) (fun k hk => by simp [Value.ownBlock] at hk; omega)); have O4 := Lib.hid (show w4.ownsRow W.heap.size 38 2 (.slice a4 G.rules.length c4) G.rules.length (L.flatMap gc) from hown4); (first | (have RB4 := Lib.hid (show w4.heap[W.heap.size + 1]? = some (.cells #[.int .i64 r.1, .slice ra r.2.length rc] 38 (0, 0)) from (hg4.block _ (by simp) (by simp [Value.ownBlock])).trans (by first | exact heap_at (by simp) | exact heap_at rfl))) | (have RB4 := Lib.hid (show w4.heap[W.heap.size]? = some (.cells #[.int .i64 r.1, .slice ra r.2.length rc] 38 (0, 0)) from (hg4.block _ (by simp; try omega) (by simp [Value.ownBlock])).trans (by first | exact heap_old (heap_at rfl) | exact heap_old (heap_new _ _)))) | skip); have hs4 := K4.out.size; obtain ⟨y0, y1, yf⟩ := (Q1.out.went K4.out).two; have hq14 : w.heap.size + 1 < w4.heap.size := (Q1.out.went K4.out).lt; clear hown4 hg4 hloc4)
      | (refine step_append_rows _ (by rfl) (.tmp 10) (.tmp 12) 23 (by rfl) W.heap.size 38 i0 (.agg #[.int .i64 0, .slice none 0 0]) 2 32 Tryd.underlying23 hii hz0 hz1 hz2 rfl (by decide) (.slice a4 G.rules.length c4) G.rules.length (L.flatMap gc) (by rfl) (by first | exact O4.out | exact Sep.ownsRow_at O4.out fun g hg => Below.heap_alloc _ _ _ (O4.out.lt g hg).2) W.heap.size (.slice (some ⟨W.heap.size + 1, 0, none⟩) 1 1) 1 (gc (r, .slice ra r.2.length rc)) (by rfl) (lit_of (x := (r, .slice ra r.2.length rc)) RB4.out (by omega)) (by simp [gc, Value.oneCell']) (by unfold maxLen; omega) (by omega) (by first | exact K4.out.size | exact (Gr.step K4.out (boxed _ _)).size) ?_; intro v5 w5 hown5 hg5 hloc5; obtain ⟨a5, c5, rfl⟩ := row_shape hown5; have K5 := Lib.hid (show Below W.heap.size W w5 from Below.grown (w := _) (by first | exact K4.out | exact Gr.step K4.out (boxed _ _)) hg5 (by first | exact K4.out.size | exact (Gr.step K4.out (boxed _ _)).size) (fun k hk => (O4.out.lt k hk).1)); have S5 := Lib.hid (GShare.snoc (d := r) HL2.out HV.out (show w5.ownsRow W.heap.size 38 2 (.slice a5 (G.rules.length + 1) c5) (L.length + 1) _ from by rw [hLl]; exact hown5)); obtain ⟨z0, z1, z2, z3, zf⟩ := (Q2.out.went K5.out).four; have hq5 : w.heap.size + 1 + 1 < w5.heap.size := (Q2.out.went K5.out).lt; clear hown5 hg5 hloc5)
      | (refine step_append_rows _ (by rfl) (.tmp 10) (.tmp 12) 23 (by rfl) W.heap.size 38 i0 (.agg #[.int .i64 0, .slice none 0 0]) 2 32 Tryd.underlying23 hii hz0 hz1 hz2 rfl (by decide) (.slice a4 G.rules.length c4) G.rules.length (L.flatMap gc) (by rfl) (by first | exact O4.out | exact Sep.ownsRow_at O4.out fun g hg => Below.heap_alloc _ _ _ (O4.out.lt g hg).2) W.heap.size (.slice (some ⟨W.heap.size, 0, none⟩) 1 1) 1 (gc (r, .slice ra r.2.length rc)) (by rfl) (lit_of (x := (r, .slice ra r.2.length rc)) RB4.out (by omega)) (by simp [gc, Value.oneCell']) (by unfold maxLen; omega) (by omega) (by first | exact K4.out.size | exact (Gr.step K4.out (boxed _ _)).size) ?_; intro v5 w5 hown5 hg5 hloc5; obtain ⟨a5, c5, rfl⟩ := row_shape hown5; have K5 := Lib.hid (show Below W.heap.size W w5 from Below.grown (w := _) (by first | exact K4.out | exact Gr.step K4.out (boxed _ _)) hg5 (by first | exact K4.out.size | exact (Gr.step K4.out (boxed _ _)).size) (fun k hk => (O4.out.lt k hk).1)); have S5 := Lib.hid (GShare.snoc (d := r) HL2.out HV.out (show w5.ownsRow W.heap.size 38 2 (.slice a5 (G.rules.length + 1) c5) (L.length + 1) _ from by rw [hLl]; exact hown5)); obtain ⟨z0, z1, z2, z3, zf⟩ := (Q2.out.went K5.out).four; have hq5 : w.heap.size + 1 + 1 < w5.heap.size := (Q2.out.went K5.out).lt; clear hown5 hg5 hloc5)
      | (refine step_append_rows _ (by rfl) (.tmp 10) (.tmp 12) 23 (by rfl) W.heap.size 38 i0 (.agg #[.int .i64 0, .slice none 0 0]) 2 32 Tryd.underlying23 hii hz0 hz1 hz2 rfl (by decide) (.slice a4 G.rules.length c4) G.rules.length (L.flatMap gc) (by rfl) (by first | exact O4.out | exact Sep.ownsRow_at O4.out fun g hg => Below.heap_alloc _ _ _ (O4.out.lt g hg).2) W.heap.size (.slice (some ⟨w4.heap.size, 0, none⟩) 1 1) 1 (gc (r, .slice ra r.2.length rc)) (by rfl) (lit_of (x := (r, .slice ra r.2.length rc)) (heap_new _ _) (by omega)) (by simp [gc, Value.oneCell']) (by unfold maxLen; omega) (by omega) (by first | exact K4.out.size | exact (Gr.step K4.out (boxed _ _)).size) ?_; intro v5 w5 hown5 hg5 hloc5; obtain ⟨a5, c5, rfl⟩ := row_shape hown5; have K5 := Lib.hid (show Below W.heap.size W w5 from Below.grown (w := _) (by first | exact K4.out | exact Gr.step K4.out (boxed _ _)) hg5 (by first | exact K4.out.size | exact (Gr.step K4.out (boxed _ _)).size) (fun k hk => (O4.out.lt k hk).1)); have S5 := Lib.hid (GShare.snoc (d := r) HL2.out HV.out (show w5.ownsRow W.heap.size 38 2 (.slice a5 (G.rules.length + 1) c5) (L.length + 1) _ from by rw [hLl]; exact hown5)); obtain ⟨z0, z1, z2, z3, zf⟩ := (Q2.out.went K5.out).four; have hq5 : w.heap.size + 1 + 1 < w5.heap.size := (Q2.out.went K5.out).lt; clear hown5 hg5 hloc5)
      | fail)
    all_goals
      go_wp2
      go_meet
      case rel => exact ⟨_, a5, c5, by rw [more_len], MoreMid.of BW.out hq2 Q0.out Q1.out Q2.out K5.out (by have S6 := S5.out; rw [HL1.out] at S6; exact S6)⟩
  case rest =>
    obtain ⟨n, a5, c5, hn, hM⟩ := hcut
    have M := Lib.hid hM
    obtain ⟨base, hsh⟩ := hM.sh
    subst hn
    have GH := Lib.hid (show GAt ⟨a1, c1, a2, c2, a5, c5⟩ (moreG G r) wc from more_at KG.out KR.out hM.below hsh hlt)
    have MU := Lib.hid (fun w1 (b : Below wc.heap.size wc w1) => much_any ⟨a1, c1, a2, c2, a3, c3⟩ G w1 (KG.out.went (Gr.step M.out.below b)))
    have C1 := Lib.hid (fun w1 (b : Below wc.heap.size wc w1) => rcheck_any ⟨a1, c1, a2, c2, a3, c3⟩ G w1 (KG.out.went (Gr.step M.out.below b)))
    have C2 := Lib.hid (fun w1 (b : Below wc.heap.size wc w1) => rcheck_any ⟨a1, c1, a2, c2, a5, c5⟩ (moreG G r) w1 (GH.out.went b))
    have AW := Lib.hid (fun w1 (b : Below wc.heap.size wc w1) => awake_any w1 (TB.out _ (Gr.step M.out.below b)))
    have hrl : r.2.length ≤ 17592186044416 := KR.out.far
    clear HL1 HL2 hM hsh hLl
    obtain ⟨x0, x1, x2, x3, xf⟩ := M.out.q0.four
    obtain ⟨y0, y1, yf⟩ := M.out.q1.two
    obtain ⟨z0, z1, z2, z3, zf⟩ := M.out.q2.four
    have hcx : w.heap.size + 1 + 1 < wc.heap.size := M.out.q2.lt
    go_wp2_with fail
    refine (MU.out _ (.refl _ _)).mono ?_
    rintro e w1 ⟨n, rfl, hn, hb⟩
    have B1 := Lib.hid hb
    clear x0 x1 x2 x3 xf y0 y1 yf z0 z1 z2 z3 zf hb hn MU
    obtain ⟨x0, x1, x2, x3, xf⟩ := (M.out.q0.went B1.out).four
    obtain ⟨y0, y1, yf⟩ := (M.out.q1.went B1.out).two
    obtain ⟨z0, z1, z2, z3, zf⟩ := (M.out.q2.went B1.out).four
    by_cases hn9 : 200 < n
    · go_wp2_with (go_at_call 7; refine (AW.out _ B1.out).mono ?_; rintro e w2 ⟨rfl, hb⟩; have HB := Lib.hid (Gr.step M.out.below (Gr.step B1.out hb)); clear hb)
      go_ret
      exact ⟨rfl, HB.out⟩
    by_cases hr9 : 20 < r.2.length
    · go_wp2_with (go_at_call 7; refine (AW.out _ B1.out).mono ?_; rintro e w2 ⟨rfl, hb⟩; have HB := Lib.hid (Gr.step M.out.below (Gr.step B1.out hb)); clear hb)
      go_ret
      exact ⟨rfl, HB.out⟩
    have P := Lib.hid (show checkN G = 0 → checkN (moreG G r) = 0 → (∀ x ∈ prodL G, x ∈ prodL (moreG G r)) ∧ ∀ x ∈ rchL G, x ∈ rchL (moreG G r) from fun h1 h2 => ⟨more_prod h1 h2, more_rch h1 h2⟩)
    have LN := Lib.hid (show checkN G = 0 → checkN (moreG G r) = 0 → top G ≤ 240 ∧ top (moreG G r) ≤ 240 from fun h1 h2 => by
      have s1 := sml_of h1
      have s2 := sml_of h2
      have := s1.t; have := s1.n; have := s2.t; have := s2.n
      unfold top
      omega)
    by_cases hc1 : checkN G = 0
    · rw [hc1] at C1
      by_cases hc2 : checkN (moreG G r) = 0
      · rw [hc2] at C2
        obtain ⟨t1, t2⟩ := LN.out hc1 hc2
        obtain ⟨p1, p2⟩ := P.out hc1 hc2
        have P1 := Lib.hid p1
        have P2 := Lib.hid p2
        have l1 := prodL_len (G := G); have l2 := prodL_len (G := moreG G r); have l3 := rchL_len (G := G); have l4 := rchL_len (G := moreG G r)
        have PA := Lib.hid (fun w1 (b : Below wc.heap.size wc w1) => productive_any ⟨a1, c1, a2, c2, a3, c3⟩ G w1 (KG.out.went (Gr.step M.out.below b)) (TB.out _ (Gr.step M.out.below b)))
        have PB := Lib.hid (fun w1 (b : Below wc.heap.size wc w1) => show Calls Tryd.prog 14 #[.agg #[.slice a1 G.terms.length c1, .slice a2 G.nons.length c2, .slice a5 (moreG G r).rules.length c5, .int .i64 G.start]] w1 (Listed (prodL (moreG G r)) w1) from productive_any ⟨a1, c1, a2, c2, a5, c5⟩ (moreG G r) w1 (GH.out.went b) (TB.out _ (Gr.step M.out.below b)))
        have RA := Lib.hid (fun w1 (b : Below wc.heap.size wc w1) => reached_any ⟨a1, c1, a2, c2, a3, c3⟩ G w1 (KG.out.went (Gr.step M.out.below b)) (TB.out _ (Gr.step M.out.below b)))
        have RB := Lib.hid (fun w1 (b : Below wc.heap.size wc w1) => show Calls Tryd.prog 15 #[.agg #[.slice a1 G.terms.length c1, .slice a2 G.nons.length c2, .slice a5 (moreG G r).rules.length c5, .int .i64 G.start]] w1 (Listed (rchL (moreG G r)) w1) from reached_any ⟨a1, c1, a2, c2, a5, c5⟩ (moreG G r) w1 (GH.out.went b) (TB.out _ (Gr.step M.out.below b)))
        generalize prodL G = A1 at *
        generalize prodL (moreG G r) = A2 at *
        generalize rchL G = A3 at *
        generalize rchL (moreG G r) = A4 at *
        clear hc1 hc2 P LN p1 p2
        go_wp2_with fail
        refine (C1.out _ B1.out).mono ?_
        rintro e w2 ⟨rfl, hb⟩
        have B2 := Lib.hid (Gr.step B1.out hb)
        clear x0 x1 x2 x3 xf y0 y1 yf z0 z1 z2 z3 zf hb
        obtain ⟨z0, z1, z2, z3, zf⟩ := (M.out.q2.went B2.out).four
        go_wp2_with fail
        refine (C2.out _ B2.out).mono ?_
        rintro e w3 ⟨rfl, hb⟩
        have B3 := Lib.hid (Gr.step B2.out hb)
        clear z0 z1 z2 z3 zf hb
        have hbd := drawn w3
        have HQ := Lib.hid (show ∀ w', Below w3.heap.size w3 w' → w'.cell? ⟨w.heap.size, 0, none⟩ = some (.slice a1 G.terms.length c1) ∧ w'.cell? ⟨w.heap.size, 1, none⟩ = some (.slice a2 G.nons.length c2) ∧ w'.cell? ⟨w.heap.size, 2, none⟩ = some (.slice a3 G.rules.length c3) ∧ w'.cell? ⟨w.heap.size, 3, none⟩ = some (.int .i64 G.start) ∧
            w'.cell? ⟨w.heap.size + 1 + 1, 0, none⟩ = some (.slice a1 G.terms.length c1) ∧ w'.cell? ⟨w.heap.size + 1 + 1, 1, none⟩ = some (.slice a2 G.nons.length c2) ∧ w'.cell? ⟨w.heap.size + 1 + 1, 2, none⟩ = some (.slice a5 (moreG G r).rules.length c5) ∧ w'.cell? ⟨w.heap.size + 1 + 1, 3, none⟩ = some (.int .i64 G.start) ∧ Below w3.heap.size w3 w' from fun w' hb => by
          obtain ⟨x0, x1, x2, x3, _⟩ := (M.out.q0.went (Gr.step B3.out hb)).four
          obtain ⟨z0, z1, z2, z3, _⟩ := (M.out.q2.went (Gr.step B3.out hb)).four
          exact ⟨x0, x1, x2, x3, z0, z1, z2, z3, hb⟩)
        go_wp2
        go_region_held3 (fun w' => w'.cell? ⟨w.heap.size, 0, none⟩ = some (.slice a1 G.terms.length c1) ∧ w'.cell? ⟨w.heap.size, 1, none⟩ = some (.slice a2 G.nons.length c2) ∧ w'.cell? ⟨w.heap.size, 2, none⟩ = some (.slice a3 G.rules.length c3) ∧ w'.cell? ⟨w.heap.size, 3, none⟩ = some (.int .i64 G.start) ∧
            w'.cell? ⟨w.heap.size + 1 + 1, 0, none⟩ = some (.slice a1 G.terms.length c1) ∧ w'.cell? ⟨w.heap.size + 1 + 1, 1, none⟩ = some (.slice a2 G.nons.length c2) ∧ w'.cell? ⟨w.heap.size + 1 + 1, 2, none⟩ = some (.slice a5 (moreG G r).rules.length c5) ∧ w'.cell? ⟨w.heap.size + 1 + 1, 3, none⟩ = some (.int .i64 G.start) ∧ Below w3.heap.size w3 w')
          (exact HQ.out _ (by assumption))
          (first
            | (go_at_call 14; ((with_reducible refine (PA.out _ (Gr.step B3.out hbd)).mono ?_)); rintro e v1 ⟨pa, qa, rfl, hRa, hNa, hb⟩; have l1 : Below w3.heap.size w3 v1 := Gr.step hbd hb; clear hb hNa)
            | (go_at_call 14; ((with_reducible refine (PB.out v1 (Gr.step B3.out l1)).mono ?_)); rintro e v2 ⟨pb, qb, rfl, hRb, hNb, hb⟩; have l2 : Below w3.heap.size w3 v2 := Gr.step l1 hb; have hRa2 := Sep.Reads.below hRa hb (Nat.le_refl _); clear hb hNb hRa)
            | (go_at_call 13; ((with_reducible refine (within_any A1 A2 pa pb qa qb v2 hRa2 hRb (by omega) (by omega) P1.out).mono ?_)); rintro e v3 ⟨rfl, hb⟩; have l3 : Below w3.heap.size w3 v3 := Gr.step l2 hb; clear hb hRa2 hRb)
            | (go_at_call 15; ((with_reducible refine (RA.out v3 (Gr.step B3.out l3)).mono ?_)); rintro e v4 ⟨pc, qc, rfl, hRc, hNc, hb⟩; have l4 : Below w3.heap.size w3 v4 := Gr.step l3 hb; clear hb hNc)
            | (go_at_call 15; ((with_reducible refine (RB.out v4 (Gr.step B3.out l4)).mono ?_)); rintro e v5 ⟨pd, qd, rfl, hRd, hNd, hb⟩; have l5 : Below w3.heap.size w3 v5 := Gr.step l4 hb; have hRc2 := Sep.Reads.below hRc hb (Nat.le_refl _); clear hb hNd hRc)
            | (go_at_call 13; ((with_reducible refine (within_any A3 A4 pc pd qc qd v5 hRc2 hRd (by omega) (by omega) P2.out).mono ?_)); rintro e v6 ⟨rfl, hb⟩; have l6 : Below w3.heap.size w3 v6 := Gr.step l5 hb; clear hb hRc2 hRd)
            | (go_at_call 7; refine (AW.out _ (Gr.step B3.out l6)).mono ?_; rintro e v7 ⟨rfl, hb⟩; have l7 : Below w3.heap.size w3 v7 := Gr.step l6 hb; clear hb)
            | fail)
        go_wp2
        go_ret
        exact ⟨rfl, Gr.step M.out.below (Gr.step B3.out l7)⟩
      · have hcb : (checkN (moreG G r) != 0) = true := by simpa using hc2
        clear hc1 hc2 P LN
        generalize checkN (moreG G r) = ck at *
        go_wp2_with fail
        refine (C1.out _ B1.out).mono ?_
        rintro e w2 ⟨rfl, hb⟩
        have B2 := Lib.hid (Gr.step B1.out hb)
        clear x0 x1 x2 x3 xf y0 y1 yf z0 z1 z2 z3 zf hb
        obtain ⟨z0, z1, z2, z3, zf⟩ := (M.out.q2.went B2.out).four
        go_wp2_with fail
        refine (C2.out _ B2.out).mono ?_
        rintro e w3 ⟨rfl, hb⟩
        have B3 := Lib.hid (Gr.step B2.out hb)
        clear z0 z1 z2 z3 zf hb
        go_wp2_with (go_at_call 7; refine (AW.out _ B3.out).mono ?_; rintro e w2 ⟨rfl, hb⟩; have HB := Lib.hid (Gr.step M.out.below (Gr.step B3.out hb)); clear hb)
        go_ret
        exact ⟨rfl, HB.out⟩
    · have hcb : (checkN G != 0) = true := by simpa using hc1
      clear hc1 P LN
      generalize checkN G = ck at *
      go_wp2_with fail
      refine (C1.out _ B1.out).mono ?_
      rintro e w2 ⟨rfl, hb⟩
      have B2 := Lib.hid (Gr.step B1.out hb)
      clear x0 x1 x2 x3 xf y0 y1 yf z0 z1 z2 z3 zf hb
      go_wp2_with (go_at_call 7; refine (AW.out _ B2.out).mono ?_; rintro e w2 ⟨rfl, hb⟩; have HB := Lib.hid (Gr.step M.out.below (Gr.step B2.out hb)); clear hb)
      go_ret
      exact ⟨rfl, HB.out⟩

end Go.Proofs.YtljblpekpmgmaaaDoor.Lv
