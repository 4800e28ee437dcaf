/-
  New of package bits, and Put, Drop: what becomes of the set.
-/
import Derived.Test.YtljblpekpmgmaaaGreatDoorBitsFind
import Derived.StillTailTactics
import Derived.Deep.OwnRows
import Derived.Deep.Heap
namespace Go.Proofs.YtljblpekpmgmaaaGreatDoor.Bt
open Go.RowKit

theorem info_u64 : (Tryz.prog.info? 57).map (fun i => (i.zero, i.size, i.bytes)) = some (some (.int .u64 0), 1, 8) := by kernel_rfl

theorem make_words (c : Nat) (hc : c ≤ 4096) (w : World) :
    (Instr.makeSlice 58 (.int .i64 (((c : Int) + 64 - 1) / 64)) (.int .i64 (((c : Int) + 64 - 1) / 64))).run Tryz.prog w = .ok (.slice (some ⟨w.heap.size, 0, none⟩) (sz c) (sz c)) (w.alloc (.cells (madeCells #[.int .u64 0] (sz c)) 57)) := by
  have e : ((c : Int) + 64 - 1) / 64 = ((sz c : Nat) : Int) := by unfold sz; omega
  have := sz_le hc
  rw [e]
  exact run_make_row' 58 57 (.int .u64 0) 8 Tryz.underlying58 info_u64 rfl .i64 .i64 (sz c) (by omega) (by omega) w

theorem none_word (k : Nat) : wd (fun _ => false) k = 0 := wd_zero.2 fun _ _ => rfl

theorem made_cell (n k : Nat) (h : k < n) (z : Value) : (madeCells #[z] n)[k]? = some z := by
  simp [madeCells, h, Nat.mod_one]

/-- The room that New gives. -/
def cap (n : Int) : Nat := (min (max n 0) 4096).toNat

theorem cap_le (n : Int) : cap n ≤ 4096 := by unfold cap; omega

/-- A new set's value, and that nothing that was there is written. -/
def Made (n : Nat) (w : World) (e : Ending) (w' : World) : Prop :=
  ∃ p d, e = .returned (.pointer (some ⟨p, 0, none⟩)) ∧ w.heap.size ≤ p ∧ w.heap.size ≤ d ∧ SetAt p d n (fun _ => false) w' ∧ Below w.heap.size w w' ∧ w'.heap[d]? = some (.cells (madeCells #[.int .u64 0] (sz n)) 57 (0, 0))

set_option maxHeartbeats 1000000 in
theorem new_any (n : Int) (w : World) :
    Calls Tryz.prog 42 #[.int .i64 n] w (Made (cap n) w) := by
  have hc := cap_le n
  go_enter Tryz.func42, Tryz.ntmps42
  go_upto_region 1 with (fail)
  go_cut [0] (fun s1 wx => s1 = .int .i64 (cap n : Int) ∧ w = wx)
  case first =>
    by_cases hneg : n < 0
    · have HI := Lib.hid (show (cap n : Int) = 0 by unfold cap; omega)
      go_wp2
      go_meet
      case rel => exact ⟨by rw [HI.out], rfl⟩
    · by_cases hbig : 4096 < n
      · have HI := Lib.hid (show (cap n : Int) = 4096 by unfold cap; omega)
        go_wp2
        go_meet
        case rel => exact ⟨by rw [HI.out], rfl⟩
      · have HI := Lib.hid (show (cap n : Int) = n by unfold cap; omega)
        go_wp2
        go_meet
        case rel => exact ⟨by rw [HI.out], rfl⟩
  case rest =>
    obtain ⟨rfl, rfl⟩ := hcut
    generalize cap n = c at *
    have hmk := make_words c hc
    go_wp2
    go_ret
    refine ⟨w.heap.size + 1, w.heap.size, rfl, by omega, Nat.le_refl _, ⟨by simp, by simp, fun k hk => ?_, fun k hk => ?_, by omega, by simp, by simp; omega, .empty hc⟩, ((Below.refl _ _).alloc (Nat.le_refl _) _).alloc (by simp) _, ?_⟩
    · rw [none_word]
      simp [made_cell _ _ hk]
    · simp
    · rw [Below.heap_alloc _ _ _ (by simp)]; exact Deep.blk_alloc_new _ _

/-- All blocks but d, that were there, are as they were. -/
structure Keeps (d : Nat) (w w' : World) : Prop where
  os : w'.os = w.os
  tape : w'.tape = w.tape
  output : w'.output = w.output
  size : w.heap.size ≤ w'.heap.size
  block : ∀ k, k < w.heap.size → k ≠ d → w'.heap[k]? = w.heap[k]?

theorem Keeps.refl (d : Nat) (w : World) : Keeps d w w := ⟨rfl, rfl, rfl, Nat.le_refl _, fun _ _ _ => rfl⟩
theorem Keeps.trans {d : Nat} {a b c : World} (h : Keeps d a b) (k : Keeps d b c) : Keeps d a c :=
  ⟨k.os.trans h.os, k.tape.trans h.tape, k.output.trans h.output, Nat.le_trans h.size k.size, fun i hi hd => (k.block i (Nat.lt_of_lt_of_le hi h.size) hd).trans (h.block i hi hd)⟩
theorem Keeps.drewN {d : Nat} {a w : World} (h : Keeps d a w) (m : Nat) : Keeps d a (w.drewN m) := ⟨h.os, h.tape, h.output, h.size, h.block⟩
theorem Keeps.drew {d : Nat} {a w : World} (h : Keeps d a w) : Keeps d a w.drew := ⟨h.os, h.tape, h.output, h.size, h.block⟩
theorem Keeps.setCell {d : Nat} {a w : World} (h : Keeps d a w) (k : Nat) (u : Value) : Keeps d a (w.setCell ⟨d, k, none⟩ u) :=
  h.trans ⟨rfl, rfl, rfl, by simp [World.setCell], fun i _ hd => Below.heap_setCell _ _ _ _ (by simpa using hd)⟩
theorem Keeps.below {d m : Nat} {a w : World} (h : Keeps d a w) (hm : m ≤ d) (hs : m ≤ a.heap.size) : Below m a w :=
  ⟨h.os, h.tape, h.output, h.size, fun i hi => h.block i (by omega) (by omega)⟩

theorem SetAt.keeps {p d n b : Nat} {B : Nat → Bool} {w w' : World} (h : SetAt p d n B w) (k : Keeps b w w') (hp : p ≠ b) (hd : d ≠ b) : SetAt p d n B w' :=
  h.keep k.size (k.block _ h.inp hp) (k.block _ h.ind hd)
theorem SetAt.below {p d n m : Nat} {B : Nat → Bool} {w w' : World} (h : SetAt p d n B w) (k : Below m w w') (hp : p < m) (hd : d < m) : SetAt p d n B w' :=
  h.keep k.size (k.block _ hp) (k.block _ hd)
theorem SetAt.drewN {p d n : Nat} {B : Nat → Bool} {w : World} (h : SetAt p d n B w) (m : Nat) : SetAt p d n B (w.drewN m) :=
  h.keep (Nat.le_refl _) rfl rfl

/-- One word is written. -/
theorem SetAt.store {p d n k : Nat} {B B' : Nat → Bool} {w : World} (h : SetAt p d n B w) (hk : k < sz n) (hB : Upto B' n) (ho : ∀ i, i ≠ k → wd B' i = wd B i) : SetAt p d n B' (w.setCell ⟨d, k, none⟩ (.int .u64 (wd B' k))) := by
  refine ⟨?_, ?_, fun i hi => ?_, fun i hi => ?_, h.apart, by simpa [World.setCell] using h.inp, by simpa [World.setCell] using h.ind, hB⟩
  · rw [World.cell?_setCell_other _ _ _ _ (by intro e; exact h.apart (congrArg Addr.block e).symm)]; exact h.room
  · rw [World.cell?_setCell_other _ _ _ _ (by intro e; exact h.apart (congrArg Addr.block e).symm)]; exact h.words
  · by_cases e : i = k
    · subst e
      exact World.cell?_setCell_same _ _ _ (h.holds i hi)
    · rw [World.cell?_setCell_other _ _ _ _ (by intro e2; exact e (congrArg Addr.off e2).symm), ho i e]; exact h.holds i hi
  · rw [World.frozen?_setCell]; exact h.free i hi

/-- What a call that writes the set at p, d answers, and what is there behind it. -/
def Wrote (r : Bool) (p d n : Nat) (B : Nat → Bool) (w : World) (e : Ending) (w' : World) : Prop := e = .returned (.bool r) ∧ SetAt p d n B w' ∧ Keeps d w w'

theorem bits_put (B : Nat → Bool) (j : Nat) : bits BinOp.or IntKind.u64 (wd B (j / 64) : Int) (bitOf j : Int) = (wd (put B j) (j / 64) : Int) := by
  rw [bits_or_u64_nat _ _ (wd_lt _ _) (bitOf_lt _), put_word]

theorem bits_cut (B : Nat → Bool) (j : Nat) : bits BinOp.andNot IntKind.u64 (wd B (j / 64) : Int) (bitOf j : Int) = (wd (cut B j) (j / 64) : Int) := by
  have h1 := wd_lt B (j / 64)
  have h2 := bitOf_lt j
  rw [u64_andNot _ _ (by omega) (by omega) (by omega) (by omega), Int.toNat_natCast, Int.toNat_natCast]
  exact congrArg _ (cut_word B j)

set_option maxHeartbeats 1000000 in
theorem put_nil (i : Int) (w : World) :
    Calls Tryz.prog 45 #[.pointer none, .int .i64 i] w fun e w' => e = .returned (.bool false) ∧ w = w' := by
  have HF := Lib.hid (fits_any w (.nil w) i)
  have hf : fit 0 i = false := by simp [fit]
  rw [hf] at HF
  clear hf
  go_enter Tryz.func45, Tryz.ntmps45
  go_wp2_with (go_at_call 46; refine HF.out.mono ?_; rintro e w' ⟨rfl, rfl⟩)
  go_ret
  exact ⟨rfl, rfl⟩

set_option maxHeartbeats 4000000 in
set_option maxRecDepth 100000 in
theorem put_any {p d n : Nat} {B : Nat → Bool} (w : World) (h : SetAt p d n B w) (i : Int) (hi : i ≤ 9223372036854775807) :
    Calls Tryz.prog 45 #[.pointer (some ⟨p, 0, none⟩), .int .i64 i] w (Wrote (putR B n i) p d n (putI B n i) w) := by
  have HF := Lib.hid (fits_any w (.at_ h) i)
  have HH := Lib.hid (has_any w (.at_ h) i hi)
  cases hf : fit n i with
  | false =>
    have e1 : putR B n i = false := by simp only [fit] at hf; simp [putR, hf]
    have e2 : putI B n i = B := by
      unfold putI
      rw [if_neg]
      intro hc
      simp [fit, hc.1, hc.2] at hf
    rw [e1, e2]
    rw [hf] at HF
    have HA := Lib.hid h
    clear h hf e1 e2
    go_enter Tryz.func45, Tryz.ntmps45
    go_wp2_with (go_at_call 46; refine HF.out.mono ?_; rintro e w' ⟨rfl, rfl⟩)
    go_ret
    exact ⟨rfl, HA.out, .refl _ _⟩
  | true =>
    obtain ⟨j, rfl, hj⟩ := fit_nat hf
    rw [hf] at HF
    rw [has_nat] at HH
    cases hb : B j with
    | true =>
      have e1 : putR B n (j : Int) = false := by simp [putR, hb]
      have e2 : putI B n (j : Int) = B := by
        unfold putI
        split
        · exact put_same hb
        · rfl
      rw [e1, e2]
      rw [hb] at HH
      have HA := Lib.hid h
      clear h hf e1 e2 hb
      go_enter Tryz.func45, Tryz.ntmps45
      go_wp2_with (first | (go_at_call 46; refine HF.out.mono ?_; rintro e w' ⟨rfl, rfl⟩) | (go_at_call 20; refine HH.out.mono ?_; rintro e w' ⟨rfl, m, rfl⟩))
      go_ret
      exact ⟨rfl, HA.out.drewN _, (Keeps.refl _ _).drewN _⟩
    | false =>
      have e1 : putR B n (j : Int) = true := by simp [putR, hb, hj]
      have e2 : putI B n (j : Int) = put B j := by
        unfold putI
        rw [if_pos (by omega)]
        rfl
      rw [e1, e2]
      rw [hb] at HH
      have HA := Lib.hid h
      have hlt : j / 64 < sz n := by unfold sz; omega
      have hs : sz n ≤ 64 := sz_le h.upto.1
      have h2 := h.upto.1
      have HE := Lib.hid (bits_put B j)
      clear h hf e1 e2 hb
      go_enter Tryz.func45, Tryz.ntmps45
      go_wp2_with (first | (go_at_call 46; refine HF.out.mono ?_; rintro e w' ⟨rfl, rfl⟩) | (go_at_call 20; refine HH.out.mono ?_; rintro e w' ⟨rfl, m, rfl⟩))
      have HA2 := Lib.hid (HA.out.drewN m)
      have HK2 := Lib.hid ((Keeps.refl d w).drewN m)
      clear HA HF HH
      generalize w.drewN m = w2 at *
      have c0 := HA2.out.words
      have c1 := HA2.out.holds _ hlt
      have c2 := HA2.out.free _ hlt
      have HB := Lib.hid (flip (bit_any j w2.drew (by omega)))
      have he := HE.out
      have q1 : IntKind.i64.wrap ((j : Int) / 64) = (j : Int) / 64 := IntWalk.i64_in _ (by omega)
      have q2 : (0 : Int) ≤ (j : Int) / 64 := by omega
      have q3 : (j : Int) / 64 < (sz n : Int) := by omega
      have q4 : ((j : Int) / 64).toNat = j / 64 := by omega
      go_still_tail 12, (by kernel_rfl)
      still_call (HB.out)
      repeat still_step
      refine wpStill_nil ?_
      change wpList _ _ _ _ _ w2.drew
      have HS := Lib.hid ((HA2.out.drewN 1).store hlt (HA2.out.upto.put hj) (fun i hi => put_other B j i hi))
      have HK := Lib.hid ((HK2.out.drewN 1).setCell (j / 64) (.int .u64 (wd (put B j) (j / 64))))
      clear q1 q2 q3 q4 he HB HE HA2 HK2
      go_wp2
      go_ret
      exact ⟨rfl, HS.out, HK.out⟩

end Go.Proofs.YtljblpekpmgmaaaGreatDoor.Bt
