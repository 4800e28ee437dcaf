/-
  The document's plain Put, whatever the name.
-/
import Derived.Test.YtbnfnkjjjpdncaaInternRefPut
namespace Go.Proofs.Ytbnfnkjjjpdncaa.It
open Go.RowKit Go.Maps

set_option maxHeartbeats 1000000 in
theorem rput_any {p : Nat} {T : Nat → Prop} {n : Nat} {L : List ByteArray} (w : World) (h : RNmAt p T n L w) (s : ByteArray) :
    Calls Try.prog 10 #[.pointer (some ⟨p, 0, none⟩), .string s] w (RWrote (.tuple #[.int .i64 (putN n L s), .int .i64 (putE n L s)]) p T n (putL n L s) w) := by
  by_cases h0 : s.size = 0
  · have e1 : putN n L s = 0 := by simp [putN, okLen, h0]
    have e2 : putE n L s = 5 := by simp [putE, okLen, h0]
    have e3 : putL n L s = L := by simp [putL, okLen, h0]
    rw [e1, e2, e3]
    have HE := Lib.hid (rwrote_same (r := .tuple #[.int .i64 (0 : Nat), .int .i64 (5 : Nat)]) h 0)
    obtain rfl := empty_of h0
    clear h h0 e1 e2 e3
    go_enter Try.func10, Try.ntmps10
    go_wp2
    go_ret2
    exact HE.out
  · obtain ⟨hne, hnl⟩ := not_empty h0
    by_cases h1 : 24 < s.size
    · have hok : okLen s = false := by
        unfold okLen
        rw [decide_eq_false (p := s.size ≤ 24) (by omega), Bool.and_false]
      have e1 : putN n L s = 0 := by simp [putN, hok]
      have e2 : putE n L s = 5 := by simp [putE, hok]
      have e3 : putL n L s = L := by simp [putL, hok]
      rw [e1, e2, e3]
      have HE := Lib.hid (rwrote_same (r := .tuple #[.int .i64 (0 : Nat), .int .i64 (5 : Nat)]) h 0)
      clear h h0 e1 e2 e3 hok
      go_enter Try.func10, Try.ntmps10
      go_wp2
      go_ret2
      exact HE.out
    · have hok : okLen s = true := by simp only [okLen, Bool.and_eq_true, decide_eq_true_eq]; omega
      have hlen : L.length ≤ n ∧ n ≤ 4096 := by
        obtain ⟨a, c, h⟩ := h
        exact ⟨h.full, h.top⟩
      obtain ⟨hl1, hl2⟩ := hlen
      cases hi : isIn L s with
      | true =>
        have e1 : putN n L s = num L s := by simp [putN, hok, hi]
        have e2 : putE n L s = 0 := by simp [putE, hok, hi]
        have e3 : putL n L s = L := by simp [putL, hok, hi]
        rw [e1, e2, e3]
        have HE := Lib.hid (rwrote_same (r := .tuple #[.int .i64 (num L s), .int .i64 (0 : Nat)]) h 0)
        obtain ⟨a, c, h⟩ := h
        have HP := Lib.hid (place_any L s a c w (.of_row h.row) (by omega))
        rw [place_in hi] at HP
        have c0 := h.texts
        clear h h0 e1 e2 e3 hok
        go_enter Try.func10, Try.ntmps10
        go_wp2_with (go_at_call 13; refine HP.out.mono ?_; rintro e w' ⟨rfl, rfl⟩)
        go_ret2
        exact HE.out
      | false =>
        by_cases hf : n ≤ L.length
        · have e1 : putN n L s = 0 := by simp [putN, hok, hi, hf]
          have e2 : putE n L s = 14 := by simp [putE, hok, hi, hf]
          have e3 : putL n L s = L := by simp [putL, hok, hi, hf]
          rw [e1, e2, e3]
          have HE := Lib.hid (fun m => rwrote_same (r := .tuple #[.int .i64 (0 : Nat), .int .i64 (14 : Nat)]) h m)
          obtain ⟨a, c, h⟩ := h
          have HP := Lib.hid (place_any L s a c w (.of_row h.row) (by omega))
          rw [place_out hi] at HP
          have c0 := h.texts
          have c1 := h.most
          clear h h0 e1 e2 e3 hok
          go_enter Try.func10, Try.ntmps10
          go_wp2_with (go_at_call 13; refine HP.out.mono ?_; rintro e w' ⟨rfl, rfl⟩)
          go_quiet (fail)
          go_wp2
          go_ret2
          exact HE.out _
        · have e1 : putN n L s = L.length := by simp [putN, hok, hi, hf]
          have e2 : putE n L s = 0 := by simp [putE, hok, hi, hf]
          have e3 : putL n L s = L ++ [s] := by simp [putL, hok, hi, hf]
          rw [e1, e2, e3]
          exact rput_add w h s hok hi (by omega)

end Go.Proofs.Ytbnfnkjjjpdncaa.It
