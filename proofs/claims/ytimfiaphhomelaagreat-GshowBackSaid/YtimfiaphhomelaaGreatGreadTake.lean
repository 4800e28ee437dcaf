/-
  The parser in memory: its tokens; what stands next, and taking it. Condition: the tokens end with the end.
-/
import Derived.Test.YtimfiaphhomelaaGreatGtokAll
import Derived.Test.YtimfiaphhomelaaGreatGreadPlain
import Derived.Recover
namespace Go.Proofs.YtimfiaphhomelaaGreat.Rd
open Go.RowKit Go.Maps
open Go.Proofs.YtimfiaphhomelaaGreat.Tk (Tok tcs cells cells_length cells_snoc Just)
set_option linter.unusedVariables false
set_option linter.unusedSimpArgs false

/-- The value of a token. -/
abbrev tokV (t : Tok) : Value := .agg #[.int .i64 t.k, .string t.s, .int .i64 (t.at_ : Int)]

/-- The parser at p: its tokens are l, in block g from o on. -/
structure PIs (p g o c : Nat) (l : List Tok) (w : World) : Prop where
  cell : w.cell? ⟨p, 0, none⟩ = some (.slice (some ⟨g, o, none⟩) l.length c)
  free : w.frozen? ⟨p, 0, none⟩ = false
  toks : ∀ i (h : i < (cells l).length), w.cell? ⟨g, o + i, none⟩ = some (cells l)[i]
  lt : g < p
  cap : l.length ≤ c
  top : c ≤ 9223372036854775807

def PAt (p : Nat) (l : List Tok) (w : World) : Prop := ∃ g o c, PIs p g o c l w

theorem PIs.at0 {p g o c : Nat} {t : Tok} {r : List Tok} {w : World} (h : PIs p g o c (t :: r) w) : w.cell? ⟨g, o, none⟩ = some (.int .i64 t.k) ∧ w.cell? ⟨g, o + 1, none⟩ = some (.string t.s) ∧ w.cell? ⟨g, o + 2, none⟩ = some (.int .i64 (t.at_ : Int)) :=
  ⟨h.toks 0 (by simp [cells, tcs]), h.toks 1 (by simp [cells, tcs]), h.toks 2 (by simp [cells, tcs])⟩
theorem PIs.fr {p g o c : Nat} {l : List Tok} {S : Nat → Prop} {w w' : World} (h : PIs p g o c l w) (hl : l ≠ []) (k : Sep.Fr S w w') (hp : ¬ S p) (hg : ¬ S g) : PIs p g o c l w' := by
  have hcp := k.cell h.cell hp
  refine ⟨hcp, ?_, fun i hi => k.cell (h.toks i hi) hg, h.lt, h.cap, h.top⟩
  exact (World.frozen?_of_block (a := ⟨p, 0, none⟩) (k.block p (World.block_lt_of_cell? w ⟨p, 0, none⟩ h.cell) hp)).trans h.free
theorem PIs.went {p g o c : Nat} {l : List Tok} {w w' : World} (h : PIs p g o c l w) (hl : l ≠ []) (hb : Below w.heap.size w w') : PIs p g o c l w' :=
  h.fr hl (Sep.Fr.of_below (S := fun _ => False) hb) id id
theorem PAt.went {p : Nat} {l : List Tok} {w w' : World} (h : PAt p l w) (hl : l ≠ []) (hb : Below w.heap.size w w') : PAt p l w' := by
  obtain ⟨g, o, c, h⟩ := h
  exact ⟨g, o, c, h.went hl hb⟩
/-- A change of blocks that are newer than the parser. -/
theorem PAt.fr {p : Nat} {l : List Tok} {S : Nat → Prop} {w w' : World} (h : PAt p l w) (hl : l ≠ []) (k : Sep.Fr S w w') (hS : ∀ b, b ≤ p → ¬ S b) : PAt p l w' := by
  obtain ⟨g, o, c, h⟩ := h
  exact ⟨g, o, c, h.fr hl k (hS p (Nat.le_refl _)) (hS g (Nat.le_of_lt h.lt))⟩
theorem PAt.lt {p : Nat} {l : List Tok} {w : World} (h : PAt p l w) : p < w.heap.size := by
  obtain ⟨g, o, c, h⟩ := h
  exact World.block_lt_of_cell? w ⟨p, 0, none⟩ h.cell

/-- A list of numbers that the call has made: the kinds that are asked for. -/
def KindsAt (b : Nat) (ks : List Int) (w : World) : Prop := ∀ j, j < ks.length → w.cell? ⟨b, 0 + j, none⟩ = some (.int .i64 (ks.getD j 0))
theorem KindsAt.went {b : Nat} {ks : List Int} {w w' : World} (h : KindsAt b ks w) (hb : Below w.heap.size w w') : KindsAt b ks w' := fun j hj => Gr.cell_later hb (h j hj)
theorem kinds1 (x : Int) (w : World) (n : Nat) (hn : n = w.heap.size) (T : TypeId) : KindsAt n [x] (w.alloc (.cells #[.int .i64 x] T)) := by
  subst hn
  intro j hj
  match j, hj with
  | 0, _ => simp
theorem kinds2 (x y : Int) (w : World) (n : Nat) (hn : n = w.heap.size) (T : TypeId) : KindsAt n [x, y] (w.alloc (.cells #[.int .i64 x, .int .i64 y] T)) := by
  subst hn
  intro j hj
  match j, hj with
  | 0, _ => simp
  | 1, _ => simp

/-- Is it one of them? Closed to simp. -/
def inK (ks : List Int) (x : Int) : Bool := ks.contains x

theorem contains_any (b n c : Nat) (ks : List Int) (x : Int) (w : World) (hn : n = ks.length) (hs : n ≤ 10) (h : KindsAt b ks w) :
    Calls Tryz.prog 92 #[.slice (some ⟨b, 0, none⟩) n c, .int .i64 x] w (Just (.bool (inK ks x)) w) := by
  subst hn
  refine (Tryz.slices_Contains_int b 0 ks.length c ks x w (Nat.le_refl _) (by omega) h).mono fun e w' ⟨he, hw⟩ => ⟨?_, hw.symm⟩
  rw [List.take_length] at he
  exact he

set_option maxRecDepth 100000 in
theorem next_any (p b n c : Nat) (ks : List Int) (t : Tok) (r : List Tok) (w : World) (hn : n = ks.length) (hs : n ≤ 10) (hk : KindsAt b ks w) (h : PAt p (t :: r) w) :
    Calls Tryz.prog 56 #[.pointer (some ⟨p, 0, none⟩), .slice (some ⟨b, 0, none⟩) n c] w (Just (.bool (inK ks t.k)) w) := by
  obtain ⟨g, o, c', h⟩ := h
  have HN := Lib.hid hn
  clear hn
  have c0 := h.cell
  have c1 := h.at0.1
  have K := Lib.hid hk
  have hlen : 0 < (t :: r).length := by simp
  generalize (t :: r).length = m at c0 hlen
  clear h hk
  go_enter Tryz.func56, Tryz.ntmps56
  go_wp2_with (go_at_call 92; refine (contains_any _ _ _ ks _ _ HN.out hs K.out).mono ?_; rintro e w' ⟨rfl, rfl⟩)
  go_ret
  exact ⟨rfl, rfl⟩

/-- What a refusal panics with. -/
abbrev Ref (e : Int) (q : Nat) : List PanicEntry := [{ v := .iface 50 (.agg #[.int .i64 e, .int .i64 (q : Int)]), recovered := false }]

theorem refuse_any (t : Tok) (e : Int) (w : World) : Calls Tryz.prog 85 #[tokV t, .int .i64 e] w fun x w' => x = .panicked (Ref e t.at_) ∧ Below w.heap.size w w' := by
  go_enter Tryz.func85, Tryz.ntmps85
  go_wp2
  exact ⟨rfl, rfl, Gr.boxed _ _⟩

theorem misplaced_any (t : Tok) (w : World) : Calls Tryz.prog 94 #[tokV t] w (Gr.Is (.int .i64 (if t.k = 0 then 4 else 3)) w) := by
  by_cases h : t.k = 0
  · have hb : (t.k == 0) = true := by simpa using h
    rw [if_pos h]
    go_enter Tryz.func94, Tryz.ntmps94
    go_wp2
    go_ret
    exact ⟨rfl, Gr.boxed _ _⟩
  · have hb : (t.k == 0) = false := by simpa using h
    rw [if_neg h]
    clear h
    go_enter Tryz.func94, Tryz.ntmps94
    go_wp2
    go_ret
    exact ⟨rfl, Gr.boxed _ _⟩

/-- A region ends at a call that panics: what is left to the region's tactic is a region of no operations. -/
theorem dead {P : Program} {G : Prop} (w : World) (h : G) (_ : wpAny P .gc #[] (fun _ _ _ => True) 0 #[] { tmps := #[], defers := [] } w) : G := h

/-- What a part of the parser gives, and what is there behind it: only the parser itself is written, of what was there. -/
def Gave {α : Type} (p : Nat) (V : α → Value → World → Prop) (x : Pr α) (w : World) (e : Ending) (w' : World) : Prop := match x with
  | .ok a r => ∃ v, e = .returned v ∧ V a v w' ∧ PAt p r w' ∧ Sep.Fr (fun k => k = p) w w'
  | .no n q => e = .panicked (Ref n q) ∧ Sep.Fr (fun k => k = p) w w'
  | .out => False

theorem bx3 (w : World) (x y z : Value) (T : TypeId) : (w.alloc (.cells #[x, y, z] T)).cell? ⟨w.heap.size, 0, none⟩ = some x ∧ (w.alloc (.cells #[x, y, z] T)).cell? ⟨w.heap.size, 1, none⟩ = some y ∧ (w.alloc (.cells #[x, y, z] T)).cell? ⟨w.heap.size, 2, none⟩ = some z := ⟨by simp, by simp, by simp⟩

theorem PIs.took {p g o c : Nat} {t : Tok} {r : List Tok} {w : World} (h : PIs p g o c (t :: r) w) : PIs p g (o + 3) (c - 1) r (w.setCell ⟨p, 0, none⟩ (.slice (some ⟨g, o + 3, none⟩) r.length (c - 1))) := by
  have hcap := h.cap
  have htop := h.top
  simp only [List.length_cons] at hcap
  refine ⟨World.cell?_setCell_same _ _ _ h.cell, by rw [World.frozen?_setCell]; exact h.free, fun i hi => ?_, h.lt, by omega, by omega⟩
  rw [World.cell?_setCell_other _ _ _ _ (fun e => absurd (congrArg Addr.block e).symm (Nat.ne_of_lt h.lt))]
  have hc : cells (t :: r) = tcs t ++ cells r := by simp [cells]
  have := h.toks (i + 3) (by rw [hc, List.length_append]; simp [tcs]; omega)
  rw [show o + 3 + i = o + (i + 3) by omega, this]
  simp only [hc]
  rw [List.getElem_append_right (by simp [tcs])]
  simp [tcs]

set_option maxRecDepth 100000 in
set_option maxHeartbeats 2000000 in
theorem take_ok (p b n c : Nat) (ks : List Int) (t : Tok) (r : List Tok) (w : World) (hn : n = ks.length) (hs : n ≤ 10) (hk : KindsAt b ks w) (h : PAt p (t :: r) w) (hr : r ≠ []) (hin : inK ks t.k = true) :
    Calls Tryz.prog 58 #[.pointer (some ⟨p, 0, none⟩), .slice (some ⟨b, 0, none⟩) n c] w (Gave p (fun a v _ => v = tokV a) (.ok t r) w) := by
  obtain ⟨g, o, c', h⟩ := h
  have HN := Lib.hid hn
  have N := Lib.hid (fun w1 (hb : Below w.heap.size w w1) => next_any p b n c ks t r w1 hn hs (hk.went hb) ⟨g, o, c', h.went (by simp) hb⟩)
  rw [hin] at N
  have c0 := h.cell
  have f0 := h.free
  obtain ⟨c1, c2, c3⟩ := h.at0
  have hlen : 1 < (t :: r).length := by have := List.length_pos_iff.2 hr; simp; omega
  have hcap := h.cap
  have htop := h.top
  have hp : p < w.heap.size := World.block_lt_of_cell? w ⟨p, 0, none⟩ c0
  have hg : g < w.heap.size := World.block_lt_of_cell? w ⟨g, o, none⟩ c1
  have PT := Lib.hid h.took
  have hm : r.length = (t :: r).length - 1 := by simp
  rw [hm] at PT
  generalize (t :: r).length = m at c0 hlen hcap PT
  clear hm
  clear h hk hn hin
  go_enter Tryz.func58, Tryz.ntmps58
  go_wp2_with (go_at_call 56; refine (N.out _ (((Below.refl _ _).alloc (Nat.le_refl _) _).alloc (by simp) _)).mono ?_; rintro e w' ⟨rfl, rfl⟩)
  refine bodyPost_ret (v := tokV t) (by simp [results, Tryz.results58, go_sem]) rfl ⟨tokV t, rfl, rfl, ?_, ?_⟩
  · exact PAt.went ⟨_, _, _, PT.out⟩ hr (((Below.refl _ _).alloc (Nat.le_refl _) _).alloc (by simp) _)
  · exact ((Sep.Fr.setCell (S := fun k => k = p) (.refl _ _) ⟨p, 0, none⟩ rfl _).alloc _).alloc _

set_option maxRecDepth 100000 in
set_option maxHeartbeats 2000000 in
theorem take_no (p b n c : Nat) (ks : List Int) (t : Tok) (r : List Tok) (w : World) (hn : n = ks.length) (hs : n ≤ 10) (hk : KindsAt b ks w) (h : PAt p (t :: r) w) (hin : inK ks t.k = false) :
    Calls Tryz.prog 58 #[.pointer (some ⟨p, 0, none⟩), .slice (some ⟨b, 0, none⟩) n c] w (Gave p (fun a v _ => v = tokV a) (.no (if t.k = 0 then 4 else 3) t.at_ : Pr Tok) w) := by
  obtain ⟨g, o, c', h⟩ := h
  have HN := Lib.hid hn
  have N := Lib.hid (fun w1 (hb : Below w.heap.size w w1) => next_any p b n c ks t r w1 hn hs (hk.went hb) ⟨g, o, c', h.went (by simp) hb⟩)
  rw [hin] at N
  have c0 := h.cell
  have f0 := h.free
  obtain ⟨c1, c2, c3⟩ := h.at0
  have hlen : 0 < (t :: r).length := by simp
  have hp : p < w.heap.size := World.block_lt_of_cell? w ⟨p, 0, none⟩ c0
  have hg : g < w.heap.size := World.block_lt_of_cell? w ⟨g, o, none⟩ c1
  generalize (t :: r).length = m at c0 hlen
  have MP := Lib.hid (fun w1 => misplaced_any t w1)
  have RF := Lib.hid (fun w1 => refuse_any t (if t.k = 0 then 4 else 3) w1)
  generalize (if t.k = 0 then (4 : Int) else 3) = e0 at MP RF
  have HB := Lib.hid (((Below.refl w.heap.size w).alloc (Nat.le_refl _) (.cells #[.int .i64 0, .string ⟨#[]⟩, .int .i64 0] 75)).alloc (by simp) (.cells #[.int .i64 t.k, .string t.s, .int .i64 (t.at_ : Int)] 75))
  have HQ := Lib.hid (show ∀ w', Below ((w.alloc (.cells #[.int .i64 0, .string ⟨#[]⟩, .int .i64 0] 75)).alloc (.cells #[.int .i64 t.k, .string t.s, .int .i64 (t.at_ : Int)] 75)).heap.size ((w.alloc (.cells #[.int .i64 0, .string ⟨#[]⟩, .int .i64 0] 75)).alloc (.cells #[.int .i64 t.k, .string t.s, .int .i64 (t.at_ : Int)] 75)) w' → w'.cell? ⟨w.heap.size + 1, 0, none⟩ = some (.int .i64 t.k) ∧ w'.cell? ⟨w.heap.size + 1, 1, none⟩ = some (.string t.s) ∧ w'.cell? ⟨w.heap.size + 1, 2, none⟩ = some (.int .i64 (t.at_ : Int)) ∧ Below w.heap.size w w' from fun w' hb =>
    ⟨Gr.cell_later hb (by simp), Gr.cell_later hb (by simp), Gr.cell_later hb (by simp), Below.trans HB.out (hb.mono (by simp; omega))⟩)
  have hbd := Gr.drawn ((w.alloc (.cells #[.int .i64 0, .string ⟨#[]⟩, .int .i64 0] 75)).alloc (.cells #[.int .i64 t.k, .string t.s, .int .i64 (t.at_ : Int)] 75))
  clear h hk hn hin
  go_enter Tryz.func58, Tryz.ntmps58
  go_wp2_with (go_at_call 56; refine (N.out _ (((Below.refl _ _).alloc (Nat.le_refl _) _).alloc (by simp) _)).mono ?_; rintro e w' ⟨rfl, rfl⟩)
  go_region_with (first
      | (go_at_call 94; refine (MP.out _).mono ?_; rintro e w1 ⟨rfl, hb⟩; obtain ⟨z0, z1, z2, zb⟩ := HQ.out _ (Gr.step hbd hb); have ZB := Lib.hid zb; clear hb zb)
      | (go_at_call 85; refine (RF.out _).mono ?_; rintro e w1 ⟨rfl, hb⟩; refine dead (P := Tryz.prog) w ⟨rfl, rfl, ?_⟩ ?_; exact Sep.Fr.of_below (Gr.step ZB.out hb))
      | fail)
  all_goals trivial

end Go.Proofs.YtimfiaphhomelaaGreat.Rd
