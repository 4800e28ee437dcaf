/-
  The document's plain sets: New, Room, in, Has, Put, Drop, Next, and how two lists are held against each other.
-/
import Derived.Test.YtmocndhcahongaaDoorBitsNone
namespace Go.Proofs.YtmocndhcahongaaDoor.Bt
open Go.RowKit

/-- A plain set at p, its flags at d. -/
structure RefAt (p d n : Nat) (B : Nat → Bool) (w : World) : Prop where
  flags : w.cell? ⟨p, 0, none⟩ = some (.slice (some ⟨d, 0, none⟩) n n)
  holds : ∀ k, k < n → w.cell? ⟨d, k, none⟩ = some (.bool (B k))
  free : ∀ k, k < n → w.frozen? ⟨d, k, none⟩ = false
  apart : p ≠ d
  inp : p < w.heap.size
  ind : d < w.heap.size
  upto : Upto B n

theorem RefAt.keep {p d n : Nat} {B : Nat → Bool} {w w' : World} (h : RefAt p d n B w) (hs : w.heap.size ≤ w'.heap.size) (hp : w'.heap[p]? = w.heap[p]?) (hd : w'.heap[d]? = w.heap[d]?) : RefAt p d n B w' :=
  ⟨(World.cell?_of_block (a := ⟨p, 0, none⟩) hp).trans h.flags,
    fun k hk => (World.cell?_of_block (a := ⟨d, k, none⟩) hd).trans (h.holds k hk), fun k hk => (World.frozen?_of_block (a := ⟨d, k, none⟩) hd).trans (h.free k hk),
    h.apart, Nat.lt_of_lt_of_le h.inp hs, Nat.lt_of_lt_of_le h.ind hs, h.upto⟩

theorem RefAt.keeps {p d n b : Nat} {B : Nat → Bool} {w w' : World} (h : RefAt p d n B w) (k : Keeps b w w') (hp : p ≠ b) (hd : d ≠ b) : RefAt p d n B w' :=
  h.keep k.size (k.block _ h.inp hp) (k.block _ h.ind hd)
theorem RefAt.below {p d n m : Nat} {B : Nat → Bool} {w w' : World} (h : RefAt p d n B w) (k : Below m w w') (hp : p < m) (hd : d < m) : RefAt p d n B w' :=
  h.keep k.size (k.block _ hp) (k.block _ hd)
theorem RefAt.drewN {p d n : Nat} {B : Nat → Bool} {w : World} (h : RefAt p d n B w) (m : Nat) : RefAt p d n B (w.drewN m) :=
  h.keep (Nat.le_refl _) rfl rfl

/-- One flag is written. -/
theorem RefAt.store {p d n k : Nat} {B B' : Nat → Bool} {w : World} (h : RefAt p d n B w) (hk : k < n) (hB : Upto B' n) {b : Bool} (hb : B' k = b) (ho : ∀ i, i ≠ k → B' i = B i) : RefAt p d n B' (w.setCell ⟨d, k, none⟩ (.bool b)) := by
  refine ⟨?_, fun i hi => ?_, fun i hi => ?_, h.apart, by simpa [World.setCell] using h.inp, by simpa [World.setCell] using h.ind, hB⟩
  · rw [World.cell?_setCell_other _ _ _ _ (by intro e; exact h.apart (congrArg Addr.block e).symm)]; exact h.flags
  · by_cases e : i = k
    · subst e
      rw [hb]
      exact World.cell?_setCell_same _ _ _ (h.holds i hi)
    · rw [World.cell?_setCell_other _ _ _ _ (by intro e2; exact e (congrArg Addr.off e2).symm), ho i e]; exact h.holds i hi
  · rw [World.frozen?_setCell]; exact h.free i hi

theorem info_bool : (Tryd.prog.info? 4).map (fun i => (i.zero, i.size, i.bytes)) = some (some (.bool false), 1, 1) := by kernel_rfl

theorem make_flags (c : Nat) (X : Int) (hX : X = (c : Int)) (hc : c ≤ 4096) (w : World) :
    (Instr.makeSlice 47 (.int .i64 X) (.int .i64 X)).run Tryd.prog w = .ok (.slice (some ⟨w.heap.size, 0, none⟩) c c) (w.alloc (.cells (madeCells #[.bool false] c) 4)) := by
  rw [hX]
  exact run_make_row' 47 4 (.bool false) 1 Tryd.underlying47 info_bool rfl .i64 .i64 c (by omega) (by omega) w

/-- A new plain set's value, and that nothing that was there is written. -/
def RMade (n : Nat) (w : World) (e : Ending) (w' : World) : Prop :=
  ∃ p d, e = .returned (.pointer (some ⟨p, 0, none⟩)) ∧ w.heap.size ≤ p ∧ w.heap.size ≤ d ∧ RefAt p d n no w' ∧ Below w.heap.size w w'

theorem rmade (c : Nat) (hc : c ≤ 4096) (w : World) : RMade c w (.returned (.pointer (some ⟨w.heap.size + 1, 0, none⟩))) ((w.alloc (.cells (madeCells #[.bool false] c) 4)).alloc (.cells #[.slice (some ⟨w.heap.size, 0, none⟩) c c] 49)) := by
  refine ⟨w.heap.size + 1, w.heap.size, rfl, by omega, Nat.le_refl _, ⟨by simp, fun k hk => ?_, fun k hk => ?_, by omega, by simp, by simp; omega, no_upto hc⟩, ((Below.refl _ _).alloc (Nat.le_refl _) _).alloc (by simp) _⟩
  · simp [made_cell _ _ hk, no]
  · simp

set_option maxHeartbeats 1000000 in
theorem rnew_any (n : Int) (w : World) :
    Calls Tryd.prog 7 #[.int .i64 n] w (RMade (cap n) w) := by
  have hc := cap_le n
  have HR := Lib.hid (rmade (cap n) hc w)
  by_cases hneg : n < 0
  · have hmk := make_flags (cap n) 0 (by unfold cap; omega) hc
    clear hc
    generalize cap n = c at *
    go_enter Tryd.func7, Tryd.ntmps7
    go_wp2
    go_ret
    exact HR.out
  · by_cases hbig : 4096 < n
    · have hmk := make_flags (cap n) 4096 (by unfold cap; omega) hc
      clear hc
      generalize cap n = c at *
      go_enter Tryd.func7, Tryd.ntmps7
      go_wp2
      go_ret
      exact HR.out
    · have hmk := make_flags (cap n) n (by unfold cap; omega) hc
      clear hc
      generalize cap n = c at *
      go_enter Tryd.func7, Tryd.ntmps7
      go_wp2
      go_ret
      exact HR.out

set_option maxHeartbeats 1000000 in
theorem rroom_any {p d n : Nat} {B : Nat → Bool} (w : World) (h : RefAt p d n B w) :
    Calls Tryd.prog 21 #[.pointer (some ⟨p, 0, none⟩)] w fun e w' => e = .returned (.int .i64 n) ∧ w = w' := by
  have h0 := h.flags
  clear h
  go_enter Tryd.func21, Tryd.ntmps21
  go_wp2
  go_ret
  exact ⟨rfl, rfl⟩

set_option maxHeartbeats 1000000 in
theorem rin_any {p d n : Nat} {B : Nat → Bool} (w : World) (h : RefAt p d n B w) (i : Int) :
    Calls Tryd.prog 32 #[.pointer (some ⟨p, 0, none⟩), .int .i64 i] w fun e w' => e = .returned (.bool (fit n i)) ∧ w = w' := by
  have h0 := h.flags
  clear h
  by_cases h1 : 0 ≤ i
  · by_cases h2 : i < (n : Int)
    · have HF := Lib.hid (show fit n i = true by simp [fit, h1, h2])
      go_enter Tryd.func32, Tryd.ntmps32
      go_wp2
      go_ret
      exact ⟨by rw [HF.out]; first | rfl | (simp; omega), rfl⟩
    · have HF := Lib.hid (show fit n i = false by simp [fit, h1, h2])
      go_enter Tryd.func32, Tryd.ntmps32
      go_wp2
      go_ret
      exact ⟨by rw [HF.out]; first | rfl | (simp; omega), rfl⟩
  · have HF := Lib.hid (show fit n i = false by simp [fit, h1])
    go_enter Tryd.func32, Tryd.ntmps32
    go_wp2
    go_ret
    exact ⟨by rw [HF.out]; first | rfl | (simp; omega), rfl⟩

set_option maxHeartbeats 1000000 in
theorem rhas_any {p d n : Nat} {B : Nat → Bool} (w : World) (h : RefAt p d n B w) (i : Int) :
    Calls Tryd.prog 15 #[.pointer (some ⟨p, 0, none⟩), .int .i64 i] w fun e w' => e = .returned (.bool (has B i)) ∧ w = w' := by
  have HF := Lib.hid (rin_any w h i)
  cases hf : fit n i with
  | false =>
    have HH := Lib.hid (has_fit h.upto hf)
    rw [hf] at HF
    clear h hf
    go_enter Tryd.func15, Tryd.ntmps15
    go_wp2_with (go_at_call 32; refine HF.out.mono ?_; rintro e w' ⟨rfl, rfl⟩)
    go_ret
    exact ⟨by rw [HH.out]; rfl, rfl⟩
  | true =>
    obtain ⟨j, rfl, hj⟩ := fit_nat hf
    have h0 := h.flags
    have h1 := h.holds j hj
    have h2 := h.upto.1
    rw [hf] at HF
    rw [has_nat]
    clear h hf
    go_enter Tryd.func15, Tryd.ntmps15
    go_wp2_with (go_at_call 32; refine HF.out.mono ?_; rintro e w' ⟨rfl, rfl⟩)
    go_ret
    exact ⟨rfl, rfl⟩

/-- What a call that writes the plain set at p, d answers, and what is there behind it. -/
def RWrote (r : Bool) (p d n : Nat) (B : Nat → Bool) (w : World) (e : Ending) (w' : World) : Prop := e = .returned (.bool r) ∧ RefAt p d n B w' ∧ Keeps d w w'

theorem putR_unfit {n : Nat} {i : Int} (B : Nat → Bool) (h : fit n i = false) : putR B n i = false ∧ putI B n i = B := by
  refine ⟨by simp only [fit] at h; simp [putR, h], ?_⟩
  unfold putI
  rw [if_neg]
  intro hc
  simp [fit, hc.1, hc.2] at h

theorem cutI_unfit {n : Nat} {B : Nat → Bool} (hB : Upto B n) {i : Int} (h : fit n i = false) : cutI B i = B := by
  have hh := has_fit hB h
  unfold cutI
  split
  · rename_i h0
    exact cut_same (by simpa [has, h0] using hh)
  · rfl

theorem putI_nat {n j : Nat} (B : Nat → Bool) (hj : j < n) : putI B n (j : Int) = put B j ∧ putR B n (j : Int) = !B j := by
  refine ⟨?_, by simp [putR, hj]⟩
  unfold putI
  rw [if_pos (by omega)]
  rfl

theorem cutI_nat (B : Nat → Bool) (j : Nat) : cutI B (j : Int) = cut B j := by
  unfold cutI
  rw [if_pos (by omega)]
  rfl

theorem put_else (B : Nat → Bool) (i j : Nat) (h : j ≠ i) : put B i j = B j := by simp [put, h]
theorem cut_else (B : Nat → Bool) (i j : Nat) (h : j ≠ i) : cut B i j = B j := by simp [cut, h]

set_option maxHeartbeats 1000000 in
theorem rput_any {p d n : Nat} {B : Nat → Bool} (w : World) (h : RefAt p d n B w) (i : Int) :
    Calls Tryd.prog 9 #[.pointer (some ⟨p, 0, none⟩), .int .i64 i] w (RWrote (putR B n i) p d n (putI B n i) w) := by
  have HF := Lib.hid (rin_any w h i)
  have HA := Lib.hid h
  cases hf : fit n i with
  | false =>
    obtain ⟨e1, e2⟩ := putR_unfit B hf
    rw [e1, e2]
    rw [hf] at HF
    clear h hf e1 e2
    go_enter Tryd.func9, Tryd.ntmps9
    go_wp2_with (go_at_call 32; refine HF.out.mono ?_; rintro e w' ⟨rfl, rfl⟩)
    go_ret
    exact ⟨rfl, HA.out, .refl _ _⟩
  | true =>
    obtain ⟨j, rfl, hj⟩ := fit_nat hf
    obtain ⟨e1, e2⟩ := putI_nat B hj
    rw [e1, e2]
    have h0 := h.flags
    have h1 := h.holds j hj
    have h2 := h.free j hj
    have h3 := h.upto.1
    rw [hf] at HF
    clear h hf e1 e2
    cases hb : B j with
    | true =>
      have HE := Lib.hid (put_same hb)
      rw [hb] at h1
      clear hb
      go_enter Tryd.func9, Tryd.ntmps9
      go_wp2_with (go_at_call 32; refine HF.out.mono ?_; rintro e w' ⟨rfl, rfl⟩)
      go_ret
      exact ⟨rfl, by rw [HE.out]; exact HA.out, .refl _ _⟩
    | false =>
      have HS := Lib.hid (HA.out.store hj (HA.out.upto.put hj) (b := true) (by simp [put]) (fun i hi => put_else B j i hi))
      have HK := Lib.hid ((Keeps.refl d w).setCell j (.bool true))
      rw [hb] at h1
      clear hb
      go_enter Tryd.func9, Tryd.ntmps9
      go_wp2_with (go_at_call 32; refine HF.out.mono ?_; rintro e w' ⟨rfl, rfl⟩)
      go_ret
      exact ⟨rfl, HS.out, HK.out⟩

set_option maxHeartbeats 1000000 in
theorem rdrop_any {p d n : Nat} {B : Nat → Bool} (w : World) (h : RefAt p d n B w) (i : Int) :
    Calls Tryd.prog 11 #[.pointer (some ⟨p, 0, none⟩), .int .i64 i] w (RWrote (has B i) p d n (cutI B i) w) := by
  have HF := Lib.hid (rin_any w h i)
  have HA := Lib.hid h
  cases hf : fit n i with
  | false =>
    rw [has_fit h.upto hf, cutI_unfit h.upto hf]
    rw [hf] at HF
    clear h hf
    go_enter Tryd.func11, Tryd.ntmps11
    go_wp2_with (go_at_call 32; refine HF.out.mono ?_; rintro e w' ⟨rfl, rfl⟩)
    go_ret
    exact ⟨rfl, HA.out, .refl _ _⟩
  | true =>
    obtain ⟨j, rfl, hj⟩ := fit_nat hf
    rw [has_nat, cutI_nat]
    have h0 := h.flags
    have h1 := h.holds j hj
    have h2 := h.free j hj
    have h3 := h.upto.1
    rw [hf] at HF
    clear h hf
    cases hb : B j with
    | false =>
      have HE := Lib.hid (cut_same hb)
      rw [hb] at h1
      clear hb
      go_enter Tryd.func11, Tryd.ntmps11
      go_wp2_with (go_at_call 32; refine HF.out.mono ?_; rintro e w' ⟨rfl, rfl⟩)
      go_ret
      exact ⟨rfl, by rw [HE.out]; exact HA.out, .refl _ _⟩
    | true =>
      have HS := Lib.hid (HA.out.store hj (HA.out.upto.cut j) (b := false) (by simp [cut]) (fun i hi => cut_else B j i hi))
      have HK := Lib.hid ((Keeps.refl d w).setCell j (.bool false))
      rw [hb] at h1
      clear hb
      go_enter Tryd.func11, Tryd.ntmps11
      go_wp2_with (go_at_call 32; refine HF.out.mono ?_; rintro e w' ⟨rfl, rfl⟩)
      go_ret
      exact ⟨rfl, HS.out, HK.out⟩

end Go.Proofs.YtmocndhcahongaaDoor.Bt
