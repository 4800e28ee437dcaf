/-
  The statements' own function awake. Condition: the library's table in math/bits holds its numbers.
-/
import Derived.Test.YtoipinnfmjaaaaaGreatDoorFirstTell
namespace Go.Proofs.YtoipinnfmjaaaaaGreatDoor.Fi
open Go.RowKit Go.Maps
open Go.Proofs.YtoipinnfmjaaaaaGreatDoor.Gr
open Go.Proofs.YtoipinnfmjaaaaaGreatDoor.Bt (Tab)
set_option linter.unusedVariables false

/-- The grammar of awake. -/
def GA : Gram := { terms := [⟨#[65]⟩, ⟨#[66]⟩], nons := [⟨#[115]⟩, ⟨#[116]⟩], rules := [(3, [4, 1]), (4, [2]), (4, [])], start := 3 }
theorem ga_check : checkN GA = 0 := by
  refine check_all (by decide +kernel) ?_ (by decide +kernel) (by decide +kernel) (by decide +kernel) (by decide +kernel)
  have h1 : plnS ⟨#[65]⟩ = true := by decide +kernel
  have h2 : plnS ⟨#[66]⟩ = true := by decide +kernel
  have h3 : plnS ⟨#[115]⟩ = true := by decide +kernel
  have h4 : plnS ⟨#[116]⟩ = true := by decide +kernel
  simp [formB, GA, h1, h2, h3, h4]
/-- Its sets. -/
def tC : Int → Bool := fun x => decide (x = 4)
def tF : Int → Int → Bool := fun x t => decide ((x = 0 ∧ t = 0) ∨ (x = 1 ∧ t = 1) ∨ (x = 2 ∧ t = 2) ∨ (x = 3 ∧ t = 1) ∨ (x = 3 ∧ t = 2) ∨ (x = 4 ∧ t = 2))
def tB : Int → Int → Bool := fun x t => decide ((x = 3 ∧ t = 0) ∨ (x = 4 ∧ t = 1))
theorem r1_in : ((3 : Int), [(4 : Int), 1]) ∈ GA.rules := by simp [GA]
theorem r2_in : ((4 : Int), [(2 : Int)]) ∈ GA.rules := by simp [GA]
theorem r3_in : ((4 : Int), ([] : List Int)) ∈ GA.rules := by simp [GA]
theorem can4 : Can GA 4 := .mk ((4 : Int), ([] : List Int)) r3_in (fun y hy => by cases hy)
theorem fst1 : Fst GA 1 1 := .leaf (.inr (by decide))
theorem fst2 : Fst GA 2 2 := .leaf (.inr (by decide))
theorem fst42 : Fst GA 4 2 := .rule (r := ((4 : Int), [(2 : Int)])) (pre := []) (y := 2) (post := []) r2_in rfl (fun z hz => by cases hz) fst2
theorem fst32 : Fst GA 3 2 := .rule (r := ((3 : Int), [(4 : Int), 1])) (pre := []) (y := 4) (post := [1]) r1_in rfl (fun z hz => by cases hz) fst42
theorem fst31 : Fst GA 3 1 := .rule (r := ((3 : Int), [(4 : Int), 1])) (pre := [4]) (y := 1) (post := []) r1_in rfl (fun z hz => by rw [List.mem_singleton] at hz; subst hz; exact can4) fst1
theorem ga_just : Just GA tC tF := by
  refine just_of ⟨fun x hx => ?_, fun x t hx => ?_⟩ (fun x hx => ?_) (fun r hr => ?_)
  · unfold tC at hx
    rw [decide_eq_true_iff] at hx
    subst hx
    exact can4
  · unfold tF at hx
    rw [decide_eq_true_iff] at hx
    rcases hx with ⟨rfl, rfl⟩ | ⟨rfl, rfl⟩ | ⟨rfl, rfl⟩ | ⟨rfl, rfl⟩ | ⟨rfl, rfl⟩ | ⟨rfl, rfl⟩
    · exact .leaf (.inl rfl)
    · exact fst1
    · exact fst2
    · exact fst31
    · exact fst32
    · exact fst42
  · rw [termB_iff] at hx
    have e : GA.terms.length = 2 := rfl
    rw [e] at hx
    have : x = 0 ∨ x = 1 ∨ x = 2 := by omega
    rcases this with rfl | rfl | rfl <;> rfl
  · simp only [GA, List.mem_cons, List.not_mem_nil, or_false] at hr
    rcases hr with rfl | rfl | rfl
    · refine ⟨fun h => (by cases h), fun t h => ?_⟩
      have : t = 2 ∨ t = 1 := by
        simp [lineB, tF, tC] at h
        omega
      rcases this with rfl | rfl <;> rfl
    · refine ⟨fun h => (by cases h), fun t h => ?_⟩
      have : t = 2 := by
        simp [lineB, tF, tC] at h
        omega
      subst this
      rfl
    · exact ⟨fun h => rfl, fun t h => by cases h⟩
theorem ga_fol : ∀ x t, tB x t = true ↔ Fol GA x t := by
  refine behind_of ga_just ⟨fun x t hx => ?_⟩ rfl (fun r hr pre x post e hn => ?_)
  · unfold tB at hx
    rw [decide_eq_true_iff] at hx
    rcases hx with ⟨rfl, rfl⟩ | ⟨rfl, rfl⟩
    · exact .start
    · exact .next (r := ((3 : Int), [(4 : Int), 1])) (pre := []) (post := [1]) r1_in rfl (by decide) (lineP_cons.2 (.inl fst1))
  · have hx : x = 4 ∧ post = [1] ∧ r = ((3 : Int), [(4 : Int), 1]) := by
      simp only [GA, List.mem_cons, List.not_mem_nil, or_false] at hr
      rw [nonB_iff] at hn
      have e1 : (GA.terms.length : Int) = 2 := rfl
      rcases hr with rfl | rfl | rfl
      · rcases pre with _ | ⟨a, _ | ⟨b, pre⟩⟩
        · simp at e
          exact ⟨e.1.symm, e.2.symm, rfl⟩
        · simp at e
          obtain ⟨_, h2, _⟩ := e
          omega
        · simp at e
      · rcases pre with _ | ⟨a, pre⟩
        · simp at e
          omega
        · simp at e
      · rcases pre with _ | ⟨a, pre⟩ <;> simp at e
    obtain ⟨rfl, rfl, rfl⟩ := hx
    refine ⟨fun t h => ?_, fun h => by cases h⟩
    have : t = 1 := by
      simp [lineB, tF, tC] at h
      omega
    subst this
    rfl
theorem ga_c : ansC GA = tC := by
  unfold ansC
  rw [if_pos ga_check, ← ga_just.eq.1]
theorem ga_f : ansF GA = tF := by
  unfold ansF
  rw [if_pos ga_check, ← ga_just.eq.2]
theorem ga_b : ansB GA = tB := by
  unfold ansB
  rw [if_pos ga_check, ← fol_eq ga_fol]
theorem ga_nl : nlB GA = false := by
  unfold nlB
  rw [decide_eq_true ga_check]
  rfl

/-- The world behind the literals of awake, and where they lie. -/
def aw (W : World) : World :=
  (((((W.alloc (.cells #[.string ⟨#[65]⟩, .string ⟨#[66]⟩] 9)).alloc (.cells #[.string ⟨#[115]⟩, .string ⟨#[116]⟩] 9)).alloc (.cells #[.int .i64 4, .int .i64 1] 3)).alloc (.cells #[.int .i64 2] 3)).alloc
    (.cells #[.int .i64 3, .slice (some ⟨W.heap.size + 1 + 1, 0, none⟩) 2 2, .int .i64 4, .slice (some ⟨W.heap.size + 1 + 1 + 1, 0, none⟩) 1 1, .int .i64 4, .slice none 0 0] 40)).alloc
    (.cells #[.slice (some ⟨W.heap.size, 0, none⟩) 2 2, .slice (some ⟨W.heap.size + 1, 0, none⟩) 2 2, .slice (some ⟨W.heap.size + 1 + 1 + 1 + 1, 0, none⟩) 3 3, .int .i64 3] 25)
def ah (W : World) : Sh := ⟨some ⟨W.heap.size, 0, none⟩, 2, some ⟨W.heap.size + 1, 0, none⟩, 2, some ⟨W.heap.size + 1 + 1 + 1 + 1, 0, none⟩, 3⟩
theorem aw_below (W : World) : Below W.heap.size W (aw W) := Gr.step (Gr.step (Gr.step (Gr.step (Gr.step (boxed _ _) (boxed _ _)) (boxed _ _)) (boxed _ _)) (boxed _ _)) (boxed _ _)
theorem fitz (x : Int) (h : -1000 ≤ x) (k : x ≤ 1000) : Fits x := ⟨by omega, by omega⟩
theorem aw_at (W : World) : GAt (ah W) GA (aw W) := by
  refine ⟨fun i hi => ?_, fun i hi => ?_, fun i hi => ?_, by simp [ah, GA], by simp [GA], by simp [GA], by simp [ah, GA], by simp [GA], ⟨?_, ?_, fitz _ (by decide) (by decide), ?_, ?_⟩⟩
  · have h2 : i < 2 := hi
    refine ⟨W.heap.size, 0, rfl, ?_⟩
    have : i = 0 ∨ i = 1 := by omega
    rcases this with rfl | rfl <;> exact cell_old (cell_old (cell_old (cell_old (cell_old (cell_new rfl rfl)))))
  · refine ⟨W.heap.size + 1, 0, rfl, ?_⟩
    have h2 : i < 2 := hi
    have : i = 0 ∨ i = 1 := by omega
    rcases this with rfl | rfl <;> exact cell_old (cell_old (cell_old (cell_old (cell_new (by simp) rfl))))
  · have h2 : i < 3 := hi
    have : i = 0 ∨ i = 1 ∨ i = 2 := by omega
    rcases this with rfl | rfl | rfl
    · refine ⟨W.heap.size + 1 + 1 + 1 + 1, 0, some ⟨W.heap.size + 1 + 1, 0, none⟩, 2, rfl, cell_old (cell_new (by simp) rfl), cell_old (cell_new (by simp) rfl), fun j hj => ?_, by simp [GA], by simp [GA]⟩
      have h3 : j < 2 := hj
      refine ⟨W.heap.size + 1 + 1, 0, rfl, ?_⟩
      have : j = 0 ∨ j = 1 := by omega
      rcases this with rfl | rfl <;> exact cell_old (cell_old (cell_old (cell_new (by simp) rfl)))
    · refine ⟨W.heap.size + 1 + 1 + 1 + 1, 0, some ⟨W.heap.size + 1 + 1 + 1, 0, none⟩, 1, rfl, cell_old (cell_new (by simp) rfl), cell_old (cell_new (by simp) rfl), fun j hj => ?_, by simp [GA], by simp [GA]⟩
      have h3 : j < 1 := hj
      obtain rfl : j = 0 := by omega
      exact ⟨W.heap.size + 1 + 1 + 1, 0, rfl, cell_old (cell_old (cell_new (by simp) rfl))⟩
    · exact ⟨W.heap.size + 1 + 1 + 1 + 1, 0, none, 0, rfl, cell_old (cell_new (by simp) rfl), cell_old (cell_new (by simp) rfl), fun j hj => absurd hj (by simp [GA]), by simp [GA], by simp [GA]⟩
  · intro s hs
    simp only [GA, List.mem_cons, List.not_mem_nil, or_false] at hs
    rcases hs with rfl | rfl <;> simp [ByteArray.size]
  · intro s hs
    simp only [GA, List.mem_cons, List.not_mem_nil, or_false] at hs
    rcases hs with rfl | rfl <;> simp [ByteArray.size]
  · intro r hr
    simp only [GA, List.mem_cons, List.not_mem_nil, or_false] at hr
    rcases hr with rfl | rfl | rfl <;> exact fitz _ (by decide) (by decide)
  · intro r hr x hx
    simp only [GA, List.mem_cons, List.not_mem_nil, or_false] at hr
    rcases hr with rfl | rfl | rfl
    · simp only [List.mem_cons, List.not_mem_nil, or_false] at hx
      rcases hx with rfl | rfl <;> exact fitz _ (by decide) (by decide)
    · simp only [List.mem_cons, List.not_mem_nil, or_false] at hx
      subst hx
      exact fitz _ (by decide) (by decide)
    · cases hx

theorem c_of (W : World) : Calls Tryz.prog 6 #[gv (ah W) GA] (aw W) fun e w' => ∃ v P D, e = .returned v ∧ VS false (Iab 2 5 5) P D v 2 5 tC tF tB no0 w' ∧ TOk 2 5 tC tF tB ∧ Below (aw W).heap.size (aw W) w' := by
  have := of_any (ah W) GA (aw W) (aw_at W)
  unfold OfEnd at this
  rw [ga_c, ga_f, ga_b, ga_nl] at this
  refine this.mono ?_
  rintro e w' ⟨v, P, D, rfl, h1, h2, h3⟩
  exact ⟨v, P, D, rfl, h1, h2 rfl, h3⟩
theorem lok2 : LOk [4, 4] 2 := ⟨fun x hx => by
  simp only [List.mem_cons, List.not_mem_nil, or_false] at hx
  rcases hx with rfl | rfl <;> decide, by simp, by simp⟩

set_option maxRecDepth 100000 in
set_option maxHeartbeats 8000000 in
theorem awake_any (W : World) (htab : Tab W) : Calls Tryz.prog 5 #[] W (Is (.bool true) W) := by
  have A := Lib.hid (aw_below W)
  have C := Lib.hid (c_of W)
  have TB := Lib.hid (fun w1 (b : Below W.heap.size W w1) => htab.below b htab.pos)
  have hsz : W.heap.size + 1 + 1 + 1 + 1 + 1 < (aw W).heap.size := by simp [aw]
  clear htab
  go_enter Tryz.func5, Tryz.ntmps5
  go_wp2_with fail
  refine C.out.mono ?_
  rintro e w1 ⟨v, P, D, rfl, hv, hT, hb⟩
  have V1 := Lib.hid hv
  have B1 := Lib.hid (Gr.step A.out hb)
  have T := Lib.hid (fun (_ : false = false) => hT)
  have EM := Lib.hid (fun x w2 (k : VS false (Iab 2 5 5) P D v 2 5 tC tF tB no0 w2) hx => empty_any w2 k T.out x hx)
  have FI := Lib.hid (fun x w2 (k : VS false (Iab 2 5 5) P D v 2 5 tC tF tB no0 w2) (b : Below W.heap.size W w2) => first_any w2 k T.out (TB.out w2 b) (by omega) x)
  have FO := Lib.hid (fun x w2 (k : VS false (Iab 2 5 5) P D v 2 5 tC tF tB no0 w2) (b : Below W.heap.size W w2) => follow_any w2 k T.out (TB.out w2 b) (by omega) x)
  clear hv hb hT A C hsz
  have bx := boxed w1 (.cells #[.int .i64 4, .int .i64 4] 3)
  have R0 : Sep.Reads (some ⟨w1.heap.size, 0, none⟩) (ivs [4, 4]) (w1.alloc (.cells #[.int .i64 4, .int .i64 4] 3)) := fun i hi => by
    have h2 : i < 2 := hi
    have : i = 0 ∨ i = 1 := by omega
    rcases this with rfl | rfl <;> exact ⟨w1.heap.size, 0, rfl, cell_new rfl rfl⟩
  have LC := Lib.hid (show Calls Tryz.prog 16 #[v, .slice (some ⟨w1.heap.size, 0, none⟩) 2 2] (w1.alloc (.cells #[.int .i64 4, .int .i64 4] 3)) (fun e w' => ∃ a c, e = .returned (.tuple #[.slice a 1 c, .bool true]) ∧ Below W.heap.size W w' ∧ VS false (Iab 2 5 5) P D v 2 5 tC tF tB no0 w') from
    (line_any _ (V1.out.went bx) T.out (TB.out _ (Gr.step B1.out bx)) (by omega) [4, 4] _ 2 R0 lok2).mono (fun e w' ⟨a, c, h1, _, _, h4⟩ => ⟨a, c, h1, Gr.step (Gr.step B1.out bx) h4, (V1.out.went bx).went h4⟩))
  clear bx R0
  go_wp2_with fail
  refine LC.out.mono ?_
  rintro e w2 ⟨a, c, rfl, hb, hv⟩
  have V2 := Lib.hid hv
  have B2 := Lib.hid hb
  clear hb hv V1 B1 LC
  have E4 := Lib.hid (show Calls Tryz.prog 9 #[v, .int .i64 4] w2 (Is (.bool true) w2) from EM.out 4 w2 V2.out (by omega))
  go_wp2_with fail
  refine E4.out.mono ?_
  rintro e w3 ⟨rfl, hb⟩
  have V3 := Lib.hid (V2.out.went hb)
  have B3 := Lib.hid (Gr.step B2.out hb)
  clear hb V2 B2 E4
  have E3 := Lib.hid (show Calls Tryz.prog 9 #[v, .int .i64 3] w3 (Is (.bool false) w3) from EM.out 3 w3 V3.out (by omega))
  go_wp2_with fail
  refine E3.out.mono ?_
  rintro e w4 ⟨rfl, hb⟩
  have V4 := Lib.hid (V3.out.went hb)
  have B4 := Lib.hid (Gr.step B3.out hb)
  clear hb V3 B3 E3
  have F3 := Lib.hid (show Calls Tryz.prog 12 #[v, .int .i64 3] w4 (fun e w' => ∃ a c, e = .returned (.slice a 2 c) ∧ Below w4.heap.size w4 w') from (FI.out 3 w4 V4.out B4.out).mono (fun e w' ⟨a, c, h1, _, _, h4⟩ => ⟨a, c, h1, h4⟩))
  go_wp2_with fail
  refine F3.out.mono ?_
  rintro e w5 ⟨a3, c3, rfl, hb⟩
  have V5 := Lib.hid (V4.out.went hb)
  have B5 := Lib.hid (Gr.step B4.out hb)
  clear hb V4 B4 F3
  have F4 := Lib.hid (show Calls Tryz.prog 14 #[v, .int .i64 4] w5 (fun e w' => ∃ a c, e = .returned (.slice a 1 c) ∧ Below w5.heap.size w5 w') from (FO.out 4 w5 V5.out B5.out).mono (fun e w' ⟨a, c, h1, _, _, h4⟩ => ⟨a, c, h1, h4⟩))
  go_wp2_with fail
  refine F4.out.mono ?_
  rintro e w6 ⟨a4, c4, rfl, hb⟩
  have B6 := Lib.hid (Gr.step B5.out hb)
  clear hb V5 B5 F4
  go_wp2
  go_ret
  exact ⟨rfl, B6.out⟩

end Go.Proofs.YtoipinnfmjaaaaaGreatDoor.Fi
