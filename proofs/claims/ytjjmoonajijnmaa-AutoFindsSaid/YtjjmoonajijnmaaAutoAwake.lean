/-
  The statements' own function awake. No condition.
-/
import Derived.Test.YtjjmoonajijnmaaMAutoB
import Derived.Test.YtjjmoonajijnmaaMAutoF
import Derived.Test.YtjjmoonajijnmaaAutoPlainEx
namespace Go.Proofs.Ytjjmoonajijnmaa.Au
open Go.RowKit Go.Maps
open Go.Proofs.Ytjjmoonajijnmaa.Gr (Gram Sh gv GAt Bx Box boxed drawn checkN Fits cell_new cell_old cell_later free_new free_old ivs)
open Go.Proofs.Ytjjmoonajijnmaa.Im
set_option linter.unusedVariables false

/-- The world behind the literals of awake, and where they lie. -/
def lw (W : World) : World :=
  ((((W.alloc (.cells #[.string ⟨#[65]⟩, .string ⟨#[66]⟩] 9)).alloc (.cells #[.string ⟨#[115]⟩] 9)).alloc (.cells #[.int .i64 1, .int .i64 3] 3)).alloc (.cells #[.int .i64 2] 3)).alloc
    (.cells #[.int .i64 3, .slice (some ⟨W.heap.size + 1 + 1, 0, none⟩) 2 2, .int .i64 3, .slice (some ⟨W.heap.size + 1 + 1 + 1, 0, none⟩) 1 1] 47)
def ah (W : World) : Sh := ⟨some ⟨W.heap.size, 0, none⟩, 2, some ⟨W.heap.size + 1, 0, none⟩, 1, some ⟨W.heap.size + 1 + 1 + 1 + 1, 0, none⟩, 2⟩
theorem lw_below (W : World) : Below W.heap.size W (lw W) := Gr.step (Gr.step (Gr.step (Gr.step (boxed _ _) (boxed _ _)) (boxed _ _)) (boxed _ _)) (boxed _ _)
theorem lw_size (W : World) : (lw W).heap.size = W.heap.size + 5 := by simp [lw]
theorem fitz (x : Int) (h : -1000 ≤ x) (k : x ≤ 1000) : Fits x := ⟨by omega, by omega⟩
theorem lw_at (W : World) : GAt (ah W) GB (lw W) := by
  refine ⟨fun i hi => ?_, fun i hi => ?_, fun i hi => ?_, by simp [ah, GB], by simp [GB], by simp [GB], by simp [ah, GB], by simp [GB], ⟨?_, ?_, fitz _ (by decide) (by decide), ?_, ?_⟩⟩
  · have h2 : i < 2 := hi
    refine ⟨W.heap.size, 0, rfl, ?_⟩
    have : i = 0 ∨ i = 1 := by omega
    rcases this with rfl | rfl <;> exact cell_old (cell_old (cell_old (cell_old (cell_new rfl rfl))))
  · have h2 : i < 1 := hi
    refine ⟨W.heap.size + 1, 0, rfl, ?_⟩
    obtain rfl : i = 0 := by omega
    exact cell_old (cell_old (cell_old (cell_new (by simp) rfl)))
  · have h2 : i < 2 := hi
    have : i = 0 ∨ i = 1 := by omega
    rcases this with rfl | rfl
    · refine ⟨W.heap.size + 1 + 1 + 1 + 1, 0, some ⟨W.heap.size + 1 + 1, 0, none⟩, 2, rfl, cell_new (by simp) rfl, cell_new (by simp) rfl, fun j hj => ?_, by simp [GB], by simp [GB]⟩
      have h3 : j < 2 := hj
      refine ⟨W.heap.size + 1 + 1, 0, rfl, ?_⟩
      have : j = 0 ∨ j = 1 := by omega
      rcases this with rfl | rfl <;> exact cell_old (cell_old (cell_new (by simp) rfl))
    · refine ⟨W.heap.size + 1 + 1 + 1 + 1, 0, some ⟨W.heap.size + 1 + 1 + 1, 0, none⟩, 1, rfl, cell_new (by simp) rfl, cell_new (by simp) rfl, fun j hj => ?_, by simp [GB], by simp [GB]⟩
      have h3 : j < 1 := hj
      obtain rfl : j = 0 := by omega
      exact ⟨W.heap.size + 1 + 1 + 1, 0, rfl, cell_old (cell_new (by simp) rfl)⟩
  · intro s hs
    simp only [GB, List.mem_cons, List.not_mem_nil, or_false] at hs
    rcases hs with rfl | rfl <;> simp [ByteArray.size]
  · intro s hs
    simp only [GB, List.mem_cons, List.not_mem_nil, or_false] at hs
    subst hs
    simp [ByteArray.size]
  · intro r hr
    simp only [GB, List.mem_cons, List.not_mem_nil, or_false] at hr
    rcases hr with rfl | rfl <;> exact fitz _ (by decide) (by decide)
  · intro r hr x hx
    simp only [GB, List.mem_cons, List.not_mem_nil, or_false] at hr
    rcases hr with rfl | rfl
    · simp only [List.mem_cons, List.not_mem_nil, or_false] at hx
      rcases hx with rfl | rfl <;> exact fitz _ (by decide) (by decide)
    · simp only [List.mem_cons, List.not_mem_nil, or_false] at hx
      subst hx
      exact fitz _ (by decide) (by decide)

/-- Its states come back. -/
def GotB (w : World) (e : Ending) (w' : World) : Prop := ∃ a c, e = .returned (.tuple #[.slice a 5 c, .int .i64 0]) ∧ StaA a XB w' ∧ Below w.heap.size w w'
theorem c_build (W w : World) (k : GAt (ah W) GB w) : Calls Try.prog 14 #[gv (ah W) GB] w (GotB w) :=
  (build_any (ah W) GB w k fun _ => by decide).mono fun e w' ⟨X, er, a, c, h1, h2, h3, _, h4⟩ => by
    obtain ⟨rfl, rfl⟩ := h2.uniq built_b
    exact ⟨a, c, h1, h3, h4⟩
theorem xb_small : Small XB := ⟨by decide, fun s hs => by
  simp only [XB, List.mem_cons, List.not_mem_nil, or_false] at hs
  rcases hs with rfl | rfl | rfl | rfl | rfl <;> decide, fun s hs => by
  simp only [XB, List.mem_cons, List.not_mem_nil, or_false] at hs
  rcases hs with rfl | rfl | rfl | rfl | rfl <;> decide⟩
theorem c_goto (w : World) (a : Option Addr) (c : Nat) (h : StaA a XB w) : Calls Try.prog 9 #[.slice a 5 c, .int .i64 0, .int .i64 1] w (Gr.Is (.int .i64 1) w) := by
  have := goto_any XB a c 0 1 w h xb_small
  rw [show gotoS XB 0 1 = 1 by decide +kernel] at this
  exact this
theorem c_walk (w : World) (a b : Option Addr) (c d : Nat) (h : StaA a XB w) (k : Sep.Reads b (ivs [1, 1, 3]) w) : Calls Try.prog 11 #[.slice a 5 c, .int .i64 0, .slice b 3 d] w (Gr.Is (.int .i64 4) w) := by
  have := walk_any XB a c 0 [1, 1, 3] b d w h xb_small k (by decide)
  rw [show walkS XB 0 [1, 1, 3] = 4 by decide +kernel] at this
  exact this
theorem c_find (w : World) (a b : Option Addr) (c d : Nat) (h : StaA a XB w) (k : ItsA b [(0, 2)] w) : Calls Try.prog 7 #[.slice a 5 c, .slice b 1 d] w (Gr.Is (.int .i64 4) w) := by
  have := find_any XB [(0, 2)] a b c d w h xb_small k
  rw [show findS XB [(0, 2)] = 4 by decide +kernel] at this
  exact this

/-- The grammar's value, and its box. -/
abbrev gl (W : World) : Value := .agg #[.slice (some ⟨W.heap.size, 0, none⟩) 2 2, .slice (some ⟨W.heap.size + 1, 0, none⟩) 1 1, .slice (some ⟨W.heap.size + 1 + 1 + 1 + 1, 0, none⟩) 2 2, .int .i64 3]

theorem aw_box {W w : World} (X : Bx (lw W) (ah W) GB w) : w.cell? ⟨W.heap.size + 1 + 1 + 1 + 1 + 1, 0, none⟩ = some (.slice (some ⟨W.heap.size, 0, none⟩) 2 2) ∧ w.cell? ⟨W.heap.size + 1 + 1 + 1 + 1 + 1, 1, none⟩ = some (.slice (some ⟨W.heap.size + 1, 0, none⟩) 1 1) ∧
    w.cell? ⟨W.heap.size + 1 + 1 + 1 + 1 + 1, 2, none⟩ = some (.slice (some ⟨W.heap.size + 1 + 1 + 1 + 1, 0, none⟩) 2 2) ∧ w.cell? ⟨W.heap.size + 1 + 1 + 1 + 1 + 1, 3, none⟩ = some (.int .i64 3) := by
  have h := X.box
  rw [lw_size] at h
  exact ⟨h.x0, h.x1, h.x2, h.x3⟩

theorem way_new (w : World) : Sep.Reads (some ⟨w.heap.size, 0, none⟩) (ivs [1, 1, 3]) (w.alloc (.cells #[.int .i64 1, .int .i64 1, .int .i64 3] 3)) := fun i hi => by
  refine ⟨w.heap.size, 0, rfl, ?_⟩
  have h3 : i < 3 := hi
  have : i = 0 ∨ i = 1 ∨ i = 2 := by omega
  rcases this with rfl | rfl | rfl <;> exact cell_new rfl rfl

theorem item_new (w : World) : ItsA (some ⟨w.heap.size, 0, none⟩) [(0, 2)] (w.alloc (.cells #[.int .i64 0, .int .i64 2] 51)) :=
  ItsV.reads (T := 51) (base := 0) (X := [(0, 2)]) (c := 1) (show World.ownsRow _ 0 51 2 _ 1 (ic (0, 2)) from item_one 51 0 w.heap.size (0, 2) w rfl (Nat.zero_le _))

set_option maxRecDepth 100000 in
set_option maxHeartbeats 4000000 in
theorem awake_any (W : World) : Calls Try.prog 6 #[] W (Gr.Is (.bool true) W) := by
  have KG := Lib.hid (fun w1 (b : Below (lw W).heap.size (lw W) w1) => (lw_at W).went b)
  have X0 := Lib.hid (Bx.start (ah W) GB (lw W) 36)
  have BL := Lib.hid (lw_below W)
  obtain ⟨wq, hwq⟩ : ∃ wq, (lw W).alloc (.cells #[.slice (ah W).a1 GB.terms.length (ah W).c1, .slice (ah W).a2 GB.nons.length (ah W).c2, .slice (ah W).a3 GB.rules.length (ah W).c3, .int .i64 GB.start] 36) = wq := ⟨_, rfl⟩
  rw [hwq] at X0
  have CB := Lib.hid (show Calls Try.prog 14 #[gl W] wq (GotB wq) from c_build W wq (KG.out wq X0.out.below))
  unfold lw at hwq
  unfold ah at hwq
  simp only [GB, List.length_cons, List.length_nil, Nat.reduceAdd] at hwq
  go_enter Try.func6, Try.ntmps6
  obtain ⟨g0, g1, g2, g3⟩ := aw_box X0.out
  have HB0 := Lib.hid (Gr.step BL.out X0.out.below)
  go_wp2_with (first
    | (go_at_call 14; refine CB.out.mono ?_; rintro e w1 ⟨a, c, rfl, hs, hb⟩; have S1 := Lib.hid hs; have H1 := Lib.hid (Gr.step HB0.out hb); clear hs hb)
    | (go_at_call 9; refine (c_goto w1 a c S1.out).mono ?_; rintro e w2 ⟨rfl, hb⟩; have bb := boxed w2 (.cells #[.int .i64 1, .int .i64 1, .int .i64 3] 3); have S2 := Lib.hid ((S1.out.went hb).went bb); have H2 := Lib.hid (Gr.step (Gr.step H1.out hb) bb); have WN := Lib.hid (way_new w2); clear hb bb)
    | (go_at_call 11; refine (c_walk _ a (some ⟨w2.heap.size, 0, none⟩) c 3 S2.out WN.out).mono ?_; rintro e w3 ⟨rfl, hb⟩; have bb := boxed w3 (.cells #[.int .i64 0, .int .i64 2] 51); have S3 := Lib.hid ((S2.out.went hb).went bb); have H3 := Lib.hid (Gr.step (Gr.step H2.out hb) bb); have IN := Lib.hid (item_new w3); clear hb bb)
    | (go_at_call 7; refine (c_find _ a (some ⟨w3.heap.size, 0, none⟩) c 1 S3.out IN.out).mono ?_; rintro e w4 ⟨rfl, hb⟩; have H4 := Lib.hid (Gr.step H3.out hb); clear hb))
  go_ret
  exact ⟨rfl, H4.out⟩

end Go.Proofs.Ytjjmoonajijnmaa.Au
