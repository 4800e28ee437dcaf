/-
  The statements' own function awake.
-/
import Derived.Test.YtljblpekpmgmaaaGreatDoorLiveCut
namespace Go.Proofs.YtljblpekpmgmaaaGreatDoor.Lv
open Go.RowKit Go.Maps
open Go.Proofs.YtljblpekpmgmaaaGreatDoor.Gr
open Go.Proofs.YtljblpekpmgmaaaGreatDoor.Bt (Tab)
set_option linter.unusedVariables false

theorem sel_dec {P : Int → Prop} {l : List Int} (b : Int → Bool) (h : ∀ x ∈ l, P x ↔ b x = true) : sel P l = l.filter b := by
  unfold sel
  refine List.filter_congr fun x hx => ?_
  rw [Bool.eq_iff_iff, @decide_eq_true_iff _ (Classical.propDecidable _)]
  exact h x hx

/-- The grammar of awake. -/
def GA : Gram := { terms := [⟨#[65]⟩], nons := [⟨#[115]⟩, ⟨#[116]⟩], rules := [(2, [1]), (3, [3])], start := 2 }
theorem ga_check : checkN GA = 0 := by
  refine check_zero (by decide +kernel) ?_ (by decide +kernel) (by decide +kernel) (by decide +kernel) (by decide +kernel)
  have h1 : plnS ⟨#[65]⟩ = true := by decide +kernel
  have h2 : plnS ⟨#[115]⟩ = true := by decide +kernel
  have h3 : plnS ⟨#[116]⟩ = true := by decide +kernel
  simp [formB, GA, h1, h2, h3]
theorem ga_prod (x : Int) : Prod GA x ↔ x = 2 := by
  constructor
  · intro h
    refine prod_closed (P := fun x => x = 2) (fun r hr ih => ?_) h
    simp only [GA, List.mem_cons, List.not_mem_nil, or_false] at hr
    rcases hr with rfl | rfl
    · rfl
    · exact ih 3 (by simp) (by decide)
  · rintro rfl
    exact .mk (2, [1]) (by simp [GA]) fun x hx hn => by
      simp only [List.mem_cons, List.not_mem_nil, or_false] at hx
      subst hx
      exact absurd hn (by decide)
theorem ga_rch (x : Int) : Rch GA x ↔ x = 1 ∨ x = 2 := by
  constructor
  · intro h
    refine rch_closed (P := fun x => x = 1 ∨ x = 2) (.inr rfl) (fun r hr hl x hx => ?_) h
    simp only [GA, List.mem_cons, List.not_mem_nil, or_false] at hr
    rcases hr with rfl | rfl
    · simp only [List.mem_cons, List.not_mem_nil, or_false] at hx
      exact .inl hx
    · simp at hl
  · rintro (rfl | rfl)
    · exact .step (2, [1]) (by simp [GA]) .start 1 (by simp)
    · exact .start
theorem ga_fine (r : Int × List Int) (hr : r ∈ GA.rules) : Fine GA r ↔ r = (2, [1]) := by
  simp only [GA, List.mem_cons, List.not_mem_nil, or_false] at hr
  unfold Fine
  rcases hr with rfl | rfl
  · simp only [iff_true]
    intro x hx hn
    simp only [List.mem_cons, List.not_mem_nil, or_false] at hx
    subst hx
    exact absurd hn (by decide)
  · constructor
    · intro h
      have := (ga_prod 3).1 (h 3 (by simp) (by decide))
      omega
    · intro h
      exact absurd h (by decide)
theorem ga_keep : keepR GA = [(2, [1])] := by
  have : keepR GA = GA.rules.filter fun r => decide (r = (2, [1])) := by
    unfold keepR
    refine List.filter_congr fun r hr => ?_
    rw [Bool.eq_iff_iff, @decide_eq_true_iff _ (Classical.propDecidable _), decide_eq_true_iff]
    exact ga_fine r hr
  rw [this]
  decide +kernel
def GK : Gram := { GA with rules := [(2, [1])] }
theorem ga_kept : keptG GA = GK := by unfold keptG GK; rw [ga_keep]
theorem gk_rch (x : Int) : Rch GK x ↔ x = 1 ∨ x = 2 := by
  constructor
  · intro h
    refine rch_closed (P := fun x => x = 1 ∨ x = 2) (.inr rfl) (fun r hr hl x hx => ?_) h
    simp only [GK, List.mem_cons, List.not_mem_nil, or_false] at hr
    subst hr
    simp only [List.mem_cons, List.not_mem_nil, or_false] at hx
    exact .inl hx
  · rintro (rfl | rfl)
    · exact .step (2, [1]) (by simp [GK]) .start 1 (by simp)
    · exact .start
theorem gk_from : fromL GK = [1, 2] := by
  unfold fromL
  rw [sel_dec (fun x => decide (x = 1 ∨ x = 2)) fun x _ => by rw [decide_eq_true_iff]; exact gk_rch x]
  decide +kernel
theorem ga_ok : TrimOk GA := ⟨ga_check, (ga_prod 2).2 rfl⟩
theorem ga_trim : (trimR GA).nons.length = 1 ∧ (trimR GA).rules.length = 1 ∧ trimB GA = true := by
  rw [(trim_yes ga_ok).2, (trim_yes ga_ok).1]
  unfold trimG
  rw [ga_kept, gk_from]
  exact ⟨by decide +kernel, by decide +kernel, rfl⟩
theorem ga_prodL : (prodL GA).length = 1 := by
  unfold prodL
  rw [if_pos ga_check, sel_dec (fun x => decide (x = 2)) fun x _ => by rw [decide_eq_true_iff]; exact ga_prod x]
  decide +kernel
theorem ga_rchL : (rchL GA).length = 2 := by
  unfold rchL fromL
  rw [if_pos ga_check, sel_dec (fun x => decide (x = 1 ∨ x = 2)) fun x _ => by rw [decide_eq_true_iff]; exact ga_rch x]
  decide +kernel
theorem ga_tell : checkL GA = (11, 3) := by
  have h : deadN GA = 3 := by
    refine dead_at (s := 2) (by decide) (fun t ht => ?_) ?_
    · unfold Dead
      rw [ga_rch, ga_prod]
      have : t = 0 ∨ t = 1 := by omega
      rcases this with rfl | rfl
      · exact fun h => by
          rcases h with h | ⟨h, _⟩
          · exact h (.inl rfl)
          · exact absurd h (by decide)
      · exact fun h => by
          rcases h with h | ⟨_, h⟩
          · exact h (.inr rfl)
          · exact h rfl
    · unfold Dead
      rw [ga_rch]
      exact .inl (by omega)
  unfold checkL
  rw [if_pos ga_check, h, if_neg (by decide)]

/-- The world behind the literals of awake, and where they lie. -/
def aw (W : World) : World :=
  (((((W.alloc (.cells #[.string ⟨#[65]⟩] 9)).alloc (.cells #[.string ⟨#[115]⟩, .string ⟨#[116]⟩] 9)).alloc (.cells #[.int .i64 1] 3)).alloc (.cells #[.int .i64 3] 3)).alloc
    (.cells #[.int .i64 2, .slice (some ⟨W.heap.size + 1 + 1, 0, none⟩) 1 1, .int .i64 3, .slice (some ⟨W.heap.size + 1 + 1 + 1, 0, none⟩) 1 1] 39)).alloc
    (.cells #[.slice (some ⟨W.heap.size, 0, none⟩) 1 1, .slice (some ⟨W.heap.size + 1, 0, none⟩) 2 2, .slice (some ⟨W.heap.size + 1 + 1 + 1 + 1, 0, none⟩) 2 2, .int .i64 2] 25)
def ah (W : World) : Sh := ⟨some ⟨W.heap.size, 0, none⟩, 1, some ⟨W.heap.size + 1, 0, none⟩, 2, some ⟨W.heap.size + 1 + 1 + 1 + 1, 0, none⟩, 2⟩
theorem aw_below (W : World) : Below W.heap.size W (aw W) := Gr.step (Gr.step (Gr.step (Gr.step (Gr.step (boxed _ _) (boxed _ _)) (boxed _ _)) (boxed _ _)) (boxed _ _)) (boxed _ _)
theorem fitz (x : Int) (h : -1000 ≤ x) (k : x ≤ 1000) : Fits x := ⟨by omega, by omega⟩
theorem aw_at (W : World) : GAt (ah W) GA (aw W) := by
  refine ⟨fun i hi => ?_, fun i hi => ?_, fun i hi => ?_, by simp [ah, GA], by simp [GA], by simp [GA], by simp [ah, GA], by simp [GA], ⟨?_, ?_, fitz _ (by decide) (by decide), ?_, ?_⟩⟩
  · have h2 : i < 1 := hi
    obtain rfl : i = 0 := by omega
    exact ⟨W.heap.size, 0, rfl, cell_old (cell_old (cell_old (cell_old (cell_old (cell_new rfl rfl)))))⟩
  · refine ⟨W.heap.size + 1, 0, rfl, ?_⟩
    have h2 : i < 2 := hi
    have : i = 0 ∨ i = 1 := by omega
    rcases this with rfl | rfl <;> exact cell_old (cell_old (cell_old (cell_old (cell_new (by simp) rfl))))
  · have h2 : i < 2 := hi
    have : i = 0 ∨ i = 1 := by omega
    rcases this with rfl | rfl
    · refine ⟨W.heap.size + 1 + 1 + 1 + 1, 0, some ⟨W.heap.size + 1 + 1, 0, none⟩, 1, rfl, cell_old (cell_new (by simp) rfl), cell_old (cell_new (by simp) rfl), fun j hj => ?_, by simp [GA], by simp [GA]⟩
      have h3 : j < 1 := hj
      obtain rfl : j = 0 := by omega
      exact ⟨W.heap.size + 1 + 1, 0, rfl, cell_old (cell_old (cell_old (cell_new (by simp) rfl)))⟩
    · refine ⟨W.heap.size + 1 + 1 + 1 + 1, 0, some ⟨W.heap.size + 1 + 1 + 1, 0, none⟩, 1, rfl, cell_old (cell_new (by simp) rfl), cell_old (cell_new (by simp) rfl), fun j hj => ?_, by simp [GA], by simp [GA]⟩
      have h3 : j < 1 := hj
      obtain rfl : j = 0 := by omega
      exact ⟨W.heap.size + 1 + 1 + 1, 0, rfl, cell_old (cell_old (cell_new (by simp) rfl))⟩
  · intro s hs
    simp only [GA, List.mem_cons, List.not_mem_nil, or_false] at hs
    subst hs
    simp [ByteArray.size]
  · intro s hs
    simp only [GA, List.mem_cons, List.not_mem_nil, or_false] at hs
    rcases hs with rfl | rfl <;> simp [ByteArray.size]
  · intro r hr
    simp only [GA, List.mem_cons, List.not_mem_nil, or_false] at hr
    rcases hr with rfl | rfl <;> exact fitz _ (by decide) (by decide)
  · intro r hr x hx
    simp only [GA, List.mem_cons, List.not_mem_nil, or_false] at hr
    rcases hr with rfl | rfl
    · simp only [List.mem_cons, List.not_mem_nil, or_false] at hx
      subst hx
      exact fitz _ (by decide) (by decide)
    · simp only [List.mem_cons, List.not_mem_nil, or_false] at hx
      subst hx
      exact fitz _ (by decide) (by decide)

/-- What stays through awake's calls. -/
structure Aw (W : World) (w : World) : Prop where
  below : Below W.heap.size W w
  at_ : GAt (ah W) GA w
  x0 : w.cell? ⟨W.heap.size + 1 + 1 + 1 + 1 + 1, 0, none⟩ = some (.slice (some ⟨W.heap.size, 0, none⟩) 1 1)
  x1 : w.cell? ⟨W.heap.size + 1 + 1 + 1 + 1 + 1, 1, none⟩ = some (.slice (some ⟨W.heap.size + 1, 0, none⟩) 2 2)
  x2 : w.cell? ⟨W.heap.size + 1 + 1 + 1 + 1 + 1, 2, none⟩ = some (.slice (some ⟨W.heap.size + 1 + 1 + 1 + 1, 0, none⟩) 2 2)
  x3 : w.cell? ⟨W.heap.size + 1 + 1 + 1 + 1 + 1, 3, none⟩ = some (.int .i64 2)
theorem Aw.start (W : World) : Aw W (aw W) := ⟨aw_below W, aw_at W, cell_new (by simp) rfl, cell_new (by simp) rfl, cell_new (by simp) rfl, cell_new (by simp) rfl⟩
theorem Aw.went {W : World} {w w' : World} (k : Aw W w) (hb : Below w.heap.size w w') : Aw W w' :=
  ⟨Gr.step k.below hb, k.at_.went hb, cell_later hb k.x0, cell_later hb k.x1, cell_later hb k.x2, cell_later hb k.x3⟩

theorem c_tell (W w : World) (k : Aw W w) : Calls Tryz.prog 6 #[gv (ah W) GA] w (Told (11, 3) w) := by have := tell_any _ _ w k.at_; rw [ga_tell] at this; exact this
theorem c_trim (W w : World) (k : Aw W w) : Calls Tryz.prog 8 #[gv (ah W) GA] w fun e w' => ∃ a1 n1 c1 a2 c2 a3 c3 s, e = .returned (.tuple #[.agg #[.slice a1 n1 c1, .slice a2 1 c2, .slice a3 1 c3, .int .i64 s], .bool true]) ∧ Below w.heap.size w w' := by
  refine (trim_any _ _ w k.at_).mono ?_
  rintro e w' ⟨sh, rfl, _, hb⟩
  obtain ⟨h1, h2, h3⟩ := ga_trim
  refine ⟨sh.a1, (trimR GA).terms.length, sh.c1, sh.a2, sh.c2, sh.a3, sh.c3, (trimR GA).start, ?_, hb⟩
  rw [h3]
  unfold gv
  rw [h1, h2]
theorem c_prod (W w : World) (k : Aw W w) (hT : Tab w) : Calls Tryz.prog 11 #[gv (ah W) GA] w fun e w' => ∃ a c, e = .returned (.slice a 1 c) ∧ Below w.heap.size w w' := by
  refine (productive_any _ _ w k.at_ hT).mono ?_
  rintro e w' ⟨a, c, rfl, _, _, hb⟩
  exact ⟨a, c, by rw [ga_prodL], hb⟩
theorem c_reach (W w : World) (k : Aw W w) (hT : Tab w) : Calls Tryz.prog 13 #[gv (ah W) GA] w fun e w' => ∃ a c, e = .returned (.slice a 2 c) ∧ Below w.heap.size w w' := by
  refine (reached_any _ _ w k.at_ hT).mono ?_
  rintro e w' ⟨a, c, rfl, _, _, hb⟩
  exact ⟨a, c, by rw [ga_rchL], hb⟩

set_option maxHeartbeats 4000000 in
theorem awake_any (W : World) (hT : Tab W) : Calls Tryz.prog 5 #[] W (Is (.bool true) W) := by
  have A := Lib.hid (Aw.start W)
  have TB := Lib.hid (fun w1 (b : Below W.heap.size W w1) => hT.below b hT.pos)
  have C := Lib.hid (c_tell W (aw W) A.out)
  have hsz : W.heap.size + 1 + 1 + 1 + 1 + 1 < (aw W).heap.size := by simp [aw]
  clear hT
  go_enter Tryz.func5, Tryz.ntmps5
  go_wp2_with fail
  refine C.out.mono ?_
  rintro e w1 ⟨rfl, hb⟩
  have A1 := Lib.hid (A.out.went hb)
  obtain ⟨_, _, x0, x1, x2, x3⟩ := A1.out
  have hs1 : W.heap.size + 1 + 1 + 1 + 1 + 1 < w1.heap.size := Nat.lt_of_lt_of_le hsz hb.size
  clear hb hsz A C
  go_wp2_with fail
  refine (c_trim W _ A1.out).mono ?_
  rintro e w2 ⟨a1, n1, c1, a2, c2, a3, c3, s, rfl, hb⟩
  have A2 := Lib.hid ((A1.out.went hb).went (boxed w2 (.cells #[.slice a1 n1 c1, .slice a2 1 c2, .slice a3 1 c3, .int .i64 s] 25)))
  have hs2 : W.heap.size + 1 + 1 + 1 + 1 + 1 < w2.heap.size := Nat.lt_of_lt_of_le hs1 hb.size
  have y1 : (w2.alloc (.cells #[.slice a1 n1 c1, .slice a2 1 c2, .slice a3 1 c3, .int .i64 s] 25)).cell? ⟨w2.heap.size, 1, none⟩ = some (.slice a2 1 c2) := cell_new rfl rfl
  have y2 : (w2.alloc (.cells #[.slice a1 n1 c1, .slice a2 1 c2, .slice a3 1 c3, .int .i64 s] 25)).cell? ⟨w2.heap.size, 2, none⟩ = some (.slice a3 1 c3) := cell_new rfl rfl
  have Y1 := Lib.hid y1
  have Y2 := Lib.hid y2
  have B2 := Lib.hid hb
  clear hb x0 x1 x2 x3 y1 y2 hs1
  obtain ⟨_, _, x0, x1, x2, x3⟩ := A1.out.went B2.out
  go_wp2_with fail
  refine (c_prod W _ A2.out (TB.out _ A2.out.below)).mono ?_
  rintro e w3 ⟨a, c, rfl, hb⟩
  have A3 := Lib.hid (A2.out.went hb)
  have y1 := cell_later hb Y1.out
  have y2 := cell_later hb Y2.out
  have B3 := Lib.hid hb
  clear hb x0 x1 x2 x3 hs2
  obtain ⟨_, _, x0, x1, x2, x3⟩ := A3.out
  go_wp2_with fail
  refine (c_reach W _ A3.out (TB.out _ A3.out.below)).mono ?_
  rintro e w4 ⟨a', c', rfl, hb⟩
  have z1 := cell_later hb y1
  have z2 := cell_later hb y2
  have A4 := Lib.hid (A3.out.went hb)
  clear hb x0 x1 x2 x3 y1 y2
  go_wp2
  go_ret
  exact ⟨rfl, A4.out.below⟩

end Go.Proofs.YtljblpekpmgmaaaGreatDoor.Lv
