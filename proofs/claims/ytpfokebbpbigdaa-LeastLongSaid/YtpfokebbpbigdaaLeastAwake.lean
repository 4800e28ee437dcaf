/-
  The statements' own function awake. No condition.
-/
import Derived.Test.YtpfokebbpbigdaaLeastTell
import Derived.Test.YtpfokebbpbigdaaLeastOf
namespace Go.Proofs.Ytpfokebbpbigdaa.Le
open Go.RowKit Go.Maps
open Go.Proofs.Ytpfokebbpbigdaa.Gr
set_option linter.unusedVariables false

/-- The grammar of awake. -/
def GA : Gram := { terms := [⟨#[65]⟩, ⟨#[66]⟩], nons := [⟨#[115]⟩], rules := [(3, [1, 3]), (3, [2])], start := 3 }
theorem ga_check : checkN GA = 0 := by
  refine check_all (by decide +kernel) ?_ (by decide +kernel) (by decide +kernel) (by decide +kernel) (by decide +kernel)
  have h1 : plnS ⟨#[65]⟩ = true := by decide +kernel
  have h2 : plnS ⟨#[66]⟩ = true := by decide +kernel
  have h3 : plnS ⟨#[115]⟩ = true := by decide +kernel
  simp [formB, GA, h1, h2, h3]
/-- Its least words. -/
def tA : Int → Ans := fun s => if s = 0 then .is [] else if s = 1 then .is [1] else if s = 2 then .is [2] else if s = 3 then .is [2] else .none
theorem ta_ok : OkS GA 4096 tA := by
  intro s
  unfold tA
  have t1 : Ws GA [1] [1] := .term (by decide) .nil
  have t2 : Ws GA [2] [2] := .term (by decide) .nil
  have t3 : Ws GA [3] [2] := Ws.one (r := (3, [2])) (by simp [GA]) t2
  split
  · rename_i h
    subst h
    exact ⟨fun w hw => by injection hw with hw; subst hw; exact ⟨.zero .nil, by simp⟩, fun h => by cases h⟩
  · split
    · rename_i h
      subst h
      exact ⟨fun w hw => by injection hw with hw; subst hw; exact ⟨t1, by simp⟩, fun h => by cases h⟩
    · split
      · rename_i h
        subst h
        exact ⟨fun w hw => by injection hw with hw; subst hw; exact ⟨t2, by simp⟩, fun h => by cases h⟩
      · split
        · rename_i h
          subst h
          exact ⟨fun w hw => by injection hw with hw; subst hw; exact ⟨t3, by simp⟩, fun h => by cases h⟩
        · exact ⟨(fun w hw => by cases hw), fun h => by cases h⟩
theorem ta_cls : Cls GA 4096 tA := by
  refine ⟨rfl, fun s hs => ?_, fun r hr => ?_⟩
  · have h := termB_iff.1 hs
    have e : GA.terms.length = 2 := rfl
    rw [e] at h
    have : s = 1 ∨ s = 2 := by omega
    rcases this with rfl | rfl <;> rfl
  · simp only [GA, List.mem_cons, List.not_mem_nil, or_false] at hr
    rcases hr with rfl | rfl <;> rfl
theorem ta_is : ansT GA = tA := by
  unfold ansT
  rw [if_pos ga_check]
  exact (least_is ta_ok ta_cls).symm
theorem ta_nil : nilB GA = false := by
  unfold nilB
  rw [decide_eq_true ga_check]
  rfl

/-- The world behind the literals of awake, and where they lie. -/
def aw (W : World) : World :=
  (((((W.alloc (.cells #[.string ⟨#[65]⟩, .string ⟨#[66]⟩] 9)).alloc (.cells #[.string ⟨#[115]⟩] 9)).alloc (.cells #[.int .i64 1, .int .i64 3] 3)).alloc (.cells #[.int .i64 2] 3)).alloc
    (.cells #[.int .i64 3, .slice (some ⟨W.heap.size + 1 + 1, 0, none⟩) 2 2, .int .i64 3, .slice (some ⟨W.heap.size + 1 + 1 + 1, 0, none⟩) 1 1] 43)).alloc
    (.cells #[.slice (some ⟨W.heap.size, 0, none⟩) 2 2, .slice (some ⟨W.heap.size + 1, 0, none⟩) 1 1, .slice (some ⟨W.heap.size + 1 + 1 + 1 + 1, 0, none⟩) 2 2, .int .i64 3] 25)
def ah (W : World) : Sh := ⟨some ⟨W.heap.size, 0, none⟩, 2, some ⟨W.heap.size + 1, 0, none⟩, 1, some ⟨W.heap.size + 1 + 1 + 1 + 1, 0, none⟩, 2⟩
theorem aw_below (W : World) : Below W.heap.size W (aw W) := Gr.step (Gr.step (Gr.step (Gr.step (Gr.step (boxed _ _) (boxed _ _)) (boxed _ _)) (boxed _ _)) (boxed _ _)) (boxed _ _)
theorem fitz (x : Int) (h : -1000 ≤ x) (k : x ≤ 1000) : Fits x := ⟨by omega, by omega⟩
theorem aw_at (W : World) : GAt (ah W) GA (aw W) := by
  refine ⟨fun i hi => ?_, fun i hi => ?_, fun i hi => ?_, by simp [ah, GA], by simp [GA], by simp [GA], by simp [ah, GA], by simp [GA], ⟨?_, ?_, fitz _ (by decide) (by decide), ?_, ?_⟩⟩
  · have h2 : i < 2 := hi
    refine ⟨W.heap.size, 0, rfl, ?_⟩
    have : i = 0 ∨ i = 1 := by omega
    rcases this with rfl | rfl <;> exact cell_old (cell_old (cell_old (cell_old (cell_old (cell_new rfl rfl)))))
  · refine ⟨W.heap.size + 1, 0, rfl, ?_⟩
    have h2 : i < 1 := hi
    obtain rfl : i = 0 := by omega
    exact cell_old (cell_old (cell_old (cell_old (cell_new (by simp) rfl))))
  · have h2 : i < 2 := hi
    have : i = 0 ∨ i = 1 := by omega
    rcases this with rfl | rfl
    · refine ⟨W.heap.size + 1 + 1 + 1 + 1, 0, some ⟨W.heap.size + 1 + 1, 0, none⟩, 2, rfl, cell_old (cell_new (by simp) rfl), cell_old (cell_new (by simp) rfl), fun j hj => ?_, by simp [GA], by simp [GA]⟩
      have h3 : j < 2 := hj
      refine ⟨W.heap.size + 1 + 1, 0, rfl, ?_⟩
      have : j = 0 ∨ j = 1 := by omega
      rcases this with rfl | rfl <;> exact cell_old (cell_old (cell_old (cell_new (by simp) rfl)))
    · refine ⟨W.heap.size + 1 + 1 + 1 + 1, 0, some ⟨W.heap.size + 1 + 1 + 1, 0, none⟩, 1, rfl, cell_old (cell_new (by simp) rfl), cell_old (cell_new (by simp) rfl), fun j hj => ?_, by simp [GA], by simp [GA]⟩
      have h3 : j < 1 := hj
      obtain rfl : j = 0 := by omega
      exact ⟨W.heap.size + 1 + 1 + 1, 0, rfl, cell_old (cell_old (cell_new (by simp) rfl))⟩
  · intro s hs
    simp only [GA, List.mem_cons, List.not_mem_nil, or_false] at hs
    rcases hs with rfl | rfl <;> simp [ByteArray.size]
  · intro s hs
    simp only [GA, List.mem_cons, List.not_mem_nil, or_false] at hs
    subst hs
    simp [ByteArray.size]
  · intro r hr
    simp only [GA, List.mem_cons, List.not_mem_nil, or_false] at hr
    rcases hr with rfl | rfl <;> exact fitz _ (by decide) (by decide)
  · intro r hr x hx
    simp only [GA, List.mem_cons, List.not_mem_nil, or_false] at hr
    rcases hr with rfl | rfl
    · simp only [List.mem_cons, List.not_mem_nil, or_false] at hx
      rcases hx with rfl | rfl <;> exact fitz _ (by decide) (by decide)
    · simp only [List.mem_cons, List.not_mem_nil, or_false] at hx
      subst hx
      exact fitz _ (by decide) (by decide)

theorem c_of (W : World) : Calls Try.prog 8 #[gv (ah W) GA] (aw W) fun e w' => ∃ v, e = .returned v ∧ VAt false v tA w' ∧ Below (aw W).heap.size (aw W) w' := by
  have := of_any (ah W) GA (aw W) (aw_at W)
  unfold OfEnd at this
  rw [ta_is, ta_nil] at this
  exact this

set_option maxHeartbeats 4000000 in
theorem awake_any (W : World) : Calls Try.prog 7 #[] W (Is (.bool true) W) := by
  have A := Lib.hid (aw_below W)
  have C := Lib.hid (c_of W)
  have hsz : W.heap.size + 1 + 1 + 1 + 1 + 1 < (aw W).heap.size := by simp [aw]
  go_enter Try.func7, Try.ntmps7
  go_wp2_with fail
  refine C.out.mono ?_
  rintro e w1 ⟨v, rfl, hv, hb⟩
  have V1 := Lib.hid hv
  have B1 := Lib.hid (Gr.step A.out hb)
  clear hv hb A C hsz
  have WC := Lib.hid (show Calls Try.prog 11 #[v, .int .i64 3] w1 (fun e w' => ∃ ad c, e = .returned (.tuple #[.slice ad 1 c, .bool true]) ∧ Sep.Reads ad (ivs [2]) w' ∧ Below w1.heap.size w1 w') from word_any false v tA 3 w1 V1.out)
  go_wp2_with fail
  refine WC.out.mono ?_
  rintro e w2 ⟨ad, c, rfl, hR, hb⟩
  have V2 := Lib.hid (V1.out.went hb)
  have B2 := Lib.hid (Gr.step B1.out hb)
  have RR := Lib.hid (show Sep.Reads ad (ivs [2]) w2 from hR)
  clear hR hb WC V1 B1
  have L3 := Lib.hid (fun w h => show Calls Try.prog 13 #[v, .int .i64 3] w (Is (.int .i64 (1)) w) from length_any false v tA 3 w h)
  have L1 := Lib.hid (fun w h => show Calls Try.prog 13 #[v, .int .i64 1] w (Is (.int .i64 (1)) w) from length_any false v tA 1 w h)
  have L9 := Lib.hid (fun w h => show Calls Try.prog 13 #[v, .int .i64 9] w (Is (.int .i64 (-1)) w) from length_any false v tA 9 w h)
  go_wp2_with fail
  refine (L3.out _ V2.out).mono ?_
  rintro e w3 ⟨rfl, hb⟩
  have V3 := Lib.hid (V2.out.went hb)
  have B3 := Lib.hid (Gr.step B2.out hb)
  have R3 := Lib.hid (RR.out.below hb (Nat.le_refl _))
  clear hb V2 B2 RR L3
  go_wp2_with fail
  refine (L1.out _ V3.out).mono ?_
  rintro e w4 ⟨rfl, hb⟩
  have V4 := Lib.hid (V3.out.went hb)
  have B4 := Lib.hid (Gr.step B3.out hb)
  have R4 := Lib.hid (R3.out.below hb (Nat.le_refl _))
  clear hb V3 B3 R3 L1
  go_wp2_with fail
  refine (L9.out _ V4.out).mono ?_
  rintro e w5 ⟨rfl, hb⟩
  have B5 := Lib.hid (Gr.step B4.out hb)
  obtain ⟨b, o, e, hc⟩ := int_at (R4.out.below hb (Nat.le_refl _)) (k := 0) (by simp)
  subst e
  have hc2 : w5.cell? ⟨b, o, none⟩ = some (.int .i64 2) := hc
  clear hb V4 B4 R4 L9 hc
  go_wp2
  go_ret
  exact ⟨rfl, B5.out⟩

end Go.Proofs.Ytpfokebbpbigdaa.Le
