/-
  Package live: renumbered: a rule with other numbers. Condition: the numbers are in the list of the new ones.
-/
import Derived.Test.YtljblpekpmgmaaaGreatDoorLiveKeep
namespace Go.Proofs.YtljblpekpmgmaaaGreatDoor.Lv
open Go.RowKit Go.Maps
open Go.Proofs.YtljblpekpmgmaaaGreatDoor.Gr
open Go.Proofs.YtljblpekpmgmaaaGreatDoor.Rw (Bk IntsV)
set_option linter.unusedVariables false

/-- The new numbers, in a list that begins with 0's. -/
def NumAt (na : Option Addr) (nl : Nat) (f : Int → Int) (w : World) : Prop := ∀ x : Nat, x < nl → ∃ b o, na = some ⟨b, o, none⟩ ∧ w.cell? ⟨b, o + x, none⟩ = some (.int .i64 (f (x : Int)))
theorem NumAt.went {na : Option Addr} {nl : Nat} {f : Int → Int} {w w' : World} (h : NumAt na nl f w) (hb : Below w.heap.size w w') : NumAt na nl f w' := fun x hx => by
  obtain ⟨b, o, e, hc⟩ := h x hx
  exact ⟨b, o, e, cell_later hb hc⟩

theorem made_ints (n : Nat) : madeCells #[.int .i64 0] n = (ivs (List.replicate n 0)).toArray := by
  refine Array.ext (by simp [size_madeCells, ivs]) fun i h1 h2 => ?_
  rw [size_madeCells] at h1
  have := Bt.made_cell n i h1 (.int .i64 0)
  rw [Array.getElem?_eq_getElem (by rw [size_madeCells]; exact h1)] at this
  injection this with this
  rw [this]
  simp [ivs, iv]
theorem make_ints (n : Nat) (hn : n ≤ 17592186044416) (w : World) :
    (Instr.makeSlice 34 (.int .i64 (n : Int)) (.int .i64 (n : Int))).run Tryz.prog w = .ok (.slice (some ⟨w.heap.size, 0, none⟩) n n) (w.alloc (.cells (ivs (List.replicate n 0)).toArray 3)) := by
  rw [← made_ints]
  exact run_make_row' 34 3 (.int .i64 0) 8 Tryz.underlying34 info_int rfl .i64 .i64 n (by omega) (by omega) w

/-- The new right side behind j symbols. -/
def newR (f : Int → Int) (R : List Int) (j : Nat) : List Int := (R.take j).map f ++ List.replicate (R.length - j) 0
theorem newR_zero (f : Int → Int) (R : List Int) : newR f R 0 = List.replicate R.length 0 := by simp [newR]
theorem newR_length (f : Int → Int) (R : List Int) {j : Nat} (hj : j ≤ R.length) : (newR f R j).length = R.length := by simp [newR]; omega
theorem newR_end (f : Int → Int) (R : List Int) : newR f R R.length = R.map f := by simp [newR]
theorem newR_at (f : Int → Int) (R : List Int) {j : Nat} (hj : j < R.length) : (newR f R j)[j]? = some 0 := by
  unfold newR
  rw [List.getElem?_append_right (by simp; omega), List.length_map, List.length_take, Nat.min_eq_left (by omega), Nat.sub_self, List.getElem?_replicate, if_pos (by omega)]
theorem newR_set (f : Int → Int) (R : List Int) {j : Nat} (hj : j < R.length) : (newR f R j).set j (f R[j]) = newR f R (j + 1) := by
  unfold newR
  have e : ((R.take j).map f).length = j := by simp; omega
  rw [List.set_append_right _ _ (by omega), e, Nat.sub_self, show R.length - j = (R.length - (j + 1)) + 1 by omega, List.replicate_succ, List.set_cons_zero, List.take_succ_eq_append_getElem hj, List.map_append]
  simp
theorem ivs_set (l : List Int) (j : Nat) (x : Int) : (ivs l).toArray.setIfInBounds j (.int .i64 x) = (ivs (l.set j x)).toArray := by
  rw [List.setIfInBounds_toArray]
  unfold ivs
  rw [List.map_set]
  rfl
theorem ivs_at {l : List Int} {j : Nat} {x : Int} (h : l[j]? = some x) : (ivs l).toArray[j]? = some (.int .i64 x) := by
  simp [ivs, iv, h]
/-- A block of numbers is a row of the call's own. -/
theorem row_of_bk {q base : Nat} {l : List Int} {w : World} (h : Bk q (ivs l).toArray 3 w) (hb : base ≤ q) (hl : l.length ≤ 17592186044416) : IntsV base l (.slice (some ⟨q, 0, none⟩) l.length l.length) w := by
  refine ⟨by simp [ivs], .inr ⟨q, l.length, (ivs l).toArray, rfl, hb, h, Nat.le_refl _, by unfold maxLen; omega, by simp [ivs], ?_⟩⟩
  simp only [Nat.mul_one]
  rw [List.take_of_length_le (by simp [ivs])]

/-- A rule comes back, its right side in a row of its own; nothing that was there is written. -/
def Renum (r : Int × List Int) (w : World) (e : Ending) (w' : World) : Prop :=
  ∃ a c, e = .returned (.agg #[.int .i64 r.1, .slice a r.2.length c]) ∧ IntsV w.heap.size r.2 (.slice a r.2.length c) w' ∧ Below w.heap.size w w'

def NLoop (f : Int → Int) (r : Int × List Int) (ra : Option Addr) (rc : Nat) (W : World) (i : Value) (w : World) : Prop :=
  ∃ j : Nat, j ≤ r.2.length ∧ i = .int .i64 j ∧ Bk (W.heap.size + 1 + 1) (ivs (newR f r.2 j)).toArray 3 w ∧ Bk W.heap.size #[.int .i64 r.1, .slice ra r.2.length rc] 39 w ∧ Bk (W.heap.size + 1) #[.int .i64 0, .slice none 0 0] 39 w ∧ Below W.heap.size W w

set_option maxRecDepth 100000 in
set_option maxHeartbeats 4000000 in
theorem renumbered_any (f : Int → Int) (r : Int × List Int) (ra : Option Addr) (rc : Nat) (na : Option Addr) (nl nc : Nat) (w : World) (h3 : Sep.Reads ra (ivs r.2) w) (hl : r.2.length ≤ 10000) (hN : NumAt na nl f w) (hnc : nl ≤ 10000)
    (h1 : 0 ≤ r.1 ∧ r.1 < (nl : Int)) (h2 : ∀ x ∈ r.2, 0 ≤ x ∧ x < (nl : Int)) :
    Calls Tryz.prog 59 #[.agg #[.int .i64 r.1, .slice ra r.2.length rc], .slice na nl nc] w (Renum (f r.1, r.2.map f) w) := by
  have RR := Lib.hid (fun w1 (b : Below w.heap.size w w1) => Sep.Reads.below h3 b (Nat.le_refl _))
  have NN := Lib.hid (fun w1 (b : Below w.heap.size w w1) => hN.went b)
  have HX := Lib.hid h2
  have b0 := Gr.step (boxed w (.cells #[.int .i64 r.1, .slice ra r.2.length rc] 39)) (boxed _ (.cells #[.int .i64 0, .slice none 0 0] 39))
  have b1 := Gr.step b0 (boxed _ (.cells (ivs (List.replicate r.2.length 0)).toArray 3))
  have B1 := Lib.hid b1
  have K0 := Lib.hid ((Bk.new w #[.int .i64 r.1, .slice ra r.2.length rc] 39 _ rfl).went (Gr.step (boxed _ (.cells #[.int .i64 0, .slice none 0 0] 39)) (boxed _ (.cells (ivs (List.replicate r.2.length 0)).toArray 3))))
  have K1 := Lib.hid ((Bk.new (w.alloc (.cells #[.int .i64 r.1, .slice ra r.2.length rc] 39)) #[.int .i64 0, .slice none 0 0] 39 (w.heap.size + 1) (by simp)).went (boxed _ (.cells (ivs (List.replicate r.2.length 0)).toArray 3)))
  have K2 := Lib.hid (Bk.new ((w.alloc (.cells #[.int .i64 r.1, .slice ra r.2.length rc] 39)).alloc (.cells #[.int .i64 0, .slice none 0 0] 39)) (ivs (List.replicate r.2.length 0)).toArray 3 (w.heap.size + 1 + 1) (by simp))
  have hmk := fun w => make_ints r.2.length (by omega) w
  clear h3 hN h2 b0 b1
  go_enter Tryz.func59, Tryz.ntmps59
  go_wp2
  clear hmk
  go_loopw [15] (fun i wr => NLoop f r ra rc w i wr) (fun i _ => r.2.length - (intOf i).toNat)
  case atStart => exact ⟨0, Nat.zero_le _, rfl, by rw [newR_zero]; exact K2.out, K0.out, K1.out, B1.out⟩
  case round =>
    clear K0 K1 K2 B1
    obtain ⟨j, hj, rfl, hR, hQ, hV, hB⟩ := hrel
    have R := Lib.hid hR
    have Q := Lib.hid hQ
    have V := Lib.hid hV
    have B := Lib.hid hB
    obtain ⟨q0, q1, qf⟩ := hQ.two
    obtain ⟨v0, v1, vf⟩ := hV.two
    have hq2 : w.heap.size + 1 + 1 < wr.heap.size := R.out.lt
    have hq1 : w.heap.size + 1 < wr.heap.size := V.out.lt
    clear hQ hV
    by_cases hlt : j < r.2.length
    · obtain ⟨b, o, rfl, hc⟩ := int_at (RR.out _ hB) hlt
      have hx := HX.out _ (List.getElem_mem hlt)
      have ST := Lib.hid (newR_set f r.2 hlt)
      have y0 := hR.cell (ivs_at (newR_at f r.2 hlt))
      have yf := hR.free j
      generalize r.2[j] = x at hc hx ST
      obtain ⟨xn, rfl⟩ : ∃ xn : Nat, x = (xn : Int) := ⟨x.toNat, by omega⟩
      obtain ⟨b2, o2, rfl, hc2⟩ := NN.out _ hB xn (by omega)
      have R2 := Lib.hid (show Bk (w.heap.size + 1 + 1) (ivs (newR f r.2 (j + 1))).toArray 3 (wr.setCell ⟨w.heap.size + 1 + 1, j, none⟩ (.int .i64 (f xn))) by
        have := hR.set (j := j) (by simp [ivs, newR_length f r.2 hj]; exact hlt) (.int .i64 (f xn))
        rw [ivs_set, ST.out] at this
        exact this)
      have hxl : xn < nl := by omega
      clear hR hB hx
      go_wp2
      go_roundw
      case rel => exact ⟨j + 1, by omega, by go_num, R2.out, Q.out.fr (Sep.Fr.setCell (S := fun k => k = w.heap.size + 1 + 1) (.refl _ _) _ rfl _) (by omega), V.out.fr (Sep.Fr.setCell (S := fun k => k = w.heap.size + 1 + 1) (.refl _ _) _ rfl _) (by omega), B.out.setCell (by simp; omega) _⟩
      case measure => simp [intOf]; omega
    · have hE : j = r.2.length := by omega
      obtain ⟨ln, e1⟩ : ∃ ln : Nat, r.1 = (ln : Int) := ⟨r.1.toNat, by omega⟩
      obtain ⟨b2, o2, e2, hc2⟩ := NN.out _ hB ln (by omega)
      have hll : ln < nl := by omega
      have RO := Lib.hid (show IntsV w.heap.size (r.2.map f) (.slice (some ⟨w.heap.size + 1 + 1, 0, none⟩) r.2.length r.2.length) wr by
        have := hR
        rw [hE, newR_end] at this
        have := row_of_bk (base := w.heap.size) this (by omega) (by rw [List.length_map]; omega)
        simpa using this)
      subst e2
      rw [e1] at q0 ⊢
      have E1 := Lib.hid e1
      clear hR hB e1
      go_wp2
      have hF2 : Sep.Fr (fun k => k = w.heap.size + 1) wr ((wr.setCell ⟨w.heap.size + 1, 0, none⟩ (.int .i64 (f ln))).setCell ⟨w.heap.size + 1, 1, none⟩ (.slice (some ⟨w.heap.size + 1 + 1, 0, none⟩) r.2.length r.2.length)) :=
        ((Sep.Fr.refl (fun k => k = w.heap.size + 1) wr).setCell ⟨w.heap.size + 1, 0, none⟩ rfl _).setCell ⟨w.heap.size + 1, 1, none⟩ rfl _
      have hl2 : (r.2.map f).length = r.2.length := List.length_map ..
      try simp only [Exit.inBlock, Exit.then]
      refine bodyPost_ret (v := .agg #[.int .i64 (f ln), .slice (some ⟨w.heap.size + 1 + 1, 0, none⟩) r.2.length r.2.length]) (by simp [results, Tryz.results59, go_sem, v0, v1]) rfl ⟨some ⟨w.heap.size + 1 + 1, 0, none⟩, r.2.length, by rw [hl2, E1.out], ?_, (B.out.setCell (by simp) _).setCell (by simp) _⟩
      rw [hl2]
      exact Rw.IntsV.at RO.out fun g hg => hF2.block g (World.ownsRow.lt RO.out g hg).2 (by simp [Value.ownBlock] at hg; omega)

end Go.Proofs.YtljblpekpmgmaaaGreatDoor.Lv
