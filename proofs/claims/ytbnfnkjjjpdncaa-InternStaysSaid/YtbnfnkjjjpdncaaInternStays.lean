/-
  The walk of the statement that a name's number never changes.
-/
import Derived.Test.YtbnfnkjjjpdncaaInternAwake
import Derived.Test.YtbnfnkjjjpdncaaInternRef
namespace Go.Proofs.Ytbnfnkjjjpdncaa.It
open Go.RowKit Go.Maps

theorem place_first (s : ByteArray) (r : List ByteArray) : isIn (s :: r) s = true ∧ num (s :: r) s = 0 ∧ place (s :: r) s = 0 := by
  have h : isIn (s :: r) s = true := isIn_mem.2 (by simp)
  have h2 : num (s :: r) s = 0 := by simp [num, pl]
  exact ⟨h, h2, by rw [place_in h, h2]; rfl⟩

theorem putL_cons (n : Nat) (s x : ByteArray) (r : List ByteArray) : ∃ r', putL n (s :: r) x = s :: r' ∧ r'.length ≤ r.length + 1 := by
  unfold putL
  repeat' split
  · exact ⟨r, rfl, by omega⟩
  · exact ⟨r, rfl, by omega⟩
  · exact ⟨r ++ [x], rfl, by simp⟩
  · exact ⟨r, rfl, by omega⟩

theorem put_first {s : ByteArray} (h : okLen s = true) : putN 4096 [] s = 0 ∧ putE 4096 [] s = 0 ∧ putL 4096 [] s = [s] := by
  have hi : isIn [] s = false := rfl
  simp [putN, putE, putL, h, hi]

theorem text_num {L : List ByteArray} {t : ByteArray} (h : isIn L t = true) : textB L (num L t) = true ∧ textS L (num L t) = t := by
  obtain ⟨h1, h2⟩ := num_lt h
  have e1 : textB L (num L t) = true := by simp [textB, h1]
  exact ⟨e1, by simp [textS, e1, h1, h2]⟩

/-- The last Put: its number, and what is told of it. -/
theorem put_last {s t : ByteArray} {r : List ByteArray} (hr : r.length ≤ 60) (ht : okLen t = true) :
    ∃ b r', putN 4096 (s :: r) t = b ∧ putE 4096 (s :: r) t = 0 ∧ putL 4096 (s :: r) t = s :: r' ∧ textB (s :: r') b = true ∧ textS (s :: r') b = t ∧ (s = t → b = 0) ∧ (s ≠ t → 1 ≤ b) ∧ b ≤ 100 := by
  have hpos : ∀ r', isIn (s :: r') t = true → s ≠ t → 1 ≤ num (s :: r') t := fun r' h hne => by
    obtain ⟨h1, h2⟩ := num_lt h
    refine Nat.one_le_iff_ne_zero.2 fun h0 => hne ?_
    simpa [h0] using h2
  cases hi : isIn (s :: r) t with
  | true =>
    obtain ⟨h1, h2⟩ := text_num hi
    have hle := num_le (L := s :: r) (s := t)
    refine ⟨num (s :: r) t, r, by simp [putN, ht, hi], by simp [putE, ht, hi], by simp [putL, ht, hi], h1, h2, fun e => ?_, hpos r hi, by simp at hle; omega⟩
    subst e
    exact (place_first _ _).2.1
  | false =>
    have hne : s ≠ t := fun e => by
      subst e
      rw [(place_first _ _).1] at hi
      cases hi
    have hf : ¬ 4096 ≤ (s :: r).length := by simp; omega
    have hs := isIn_snoc (s :: r) t
    have hn := num_snoc_same hi
    obtain ⟨h1, h2⟩ := text_num hs
    rw [hn] at h1 h2
    refine ⟨(s :: r).length, r ++ [t], by simp only [putN, ht, hi, hf, if_true, if_false, Bool.false_eq_true], by simp only [putE, ht, hi, hf, if_true, if_false, Bool.false_eq_true], by simp only [putL, ht, hi, hf, if_true, if_false, Bool.false_eq_true]; rfl, h1, h2, fun e => absurd e hne, fun _ => by simp, by simp; omega⟩

set_option maxHeartbeats 4000000 in
theorem stays_main (s t : ByteArray) (a : Option Addr) (c : Nat) (M : List ByteArray) (W : World) (hg : Sep.Reads a (M.map .string) W) (hM : M.length ≤ 60) (hs : okLen s = true) (ht : okLen t = true) :
    Calls Try.prog 4 #[.string s, .string t, .slice a M.length c] W (Yes W) := by
  have HA := Lib.hid awake_any
  have HG := Lib.hid hg
  have HT := Lib.hid ht
  have HS := Lib.hid hs
  have hs2 : 0 < s.size ∧ s.size ≤ 24 := by simpa [okLen] using hs
  have ht2 : 0 < t.size ∧ t.size ≤ 24 := by simpa [okLen] using ht
  obtain ⟨s1, s2⟩ := hs2
  obtain ⟨t1, t2⟩ := ht2
  obtain ⟨s3, s4⟩ := not_empty (s := s) (by omega)
  obtain ⟨t3, t4⟩ := not_empty (s := t) (by omega)
  have HN := Lib.hid (new_any 4096 W)
  rw [show cap 4096 = 4096 from by decide] at HN
  clear hg hs ht
  go_enter Try.func4, Try.ntmps4
  go_wp2_with fail
  refine HN.out.mono ?_
  rintro e w1 ⟨p, S, rfl, _, hS, hat, hb⟩
  have HO := Lib.hid (Own.mk hS hat hb)
  clear hS hat hb HN
  go_wp2_with fail
  have HP := Lib.hid (put_any w1 HO.out.at_ s (by unfold maxLen; omega))
  rw [(put_first HS.out).1, (put_first HS.out).2.1, (put_first HS.out).2.2] at HP
  refine HP.out.mono ?_
  rintro e w2 ⟨rfl, T, hat, hf, hx⟩
  have HO2 := Lib.hid (HO.out.wrote hat hf hx)
  clear hat hf hx HO HP
  go_wp2_with fail
  go_loopw [10] (fun i wr => ∃ k : Nat, k ≤ M.length ∧ i = .int .i64 k ∧ ∃ S r, Own W p S 4096 (s :: r) wr ∧ r.length ≤ k) (fun i _ => M.length - (intOf i).toNat)
  case atStart => exact ⟨0, Nat.zero_le _, rfl, T, [], HO2.out, Nat.le_refl _⟩
  case round =>
    obtain ⟨k, hk, rfl, S, r, hO, hr⟩ := hrel
    have HO := Lib.hid hO
    clear hO HO2
    by_cases hlt : k < M.length
    · obtain ⟨b, o, rfl, hc⟩ := HG.out k (by simpa using hlt)
      simp only [List.getElem_map] at hc
      have k1 := cell_later HO.out.below hc
      clear hc
      generalize M[k] = x at k1
      by_cases hbig : x.size ≤ 1000
      · go_wp2_with fail
        obtain ⟨r', e1, e2⟩ := putL_cons 4096 s x r
        have HP := Lib.hid (put_any wr HO.out.at_ x (by unfold maxLen; omega))
        rw [e1] at HP
        clear e1
        refine HP.out.mono ?_
        rintro e w3 ⟨rfl, U, hat, hf, hx⟩
        have HO3 := Lib.hid (HO.out.wrote hat hf hx)
        clear hat hf hx HP
        go_wp2
        go_roundw
        case rel => exact ⟨k + 1, by omega, by go_num, U, r', HO3.out, by omega⟩
        case measure => simp [intOf]; omega
      · go_wp2
        go_roundw
        case rel => exact ⟨k + 1, by omega, by go_num, S, r, HO.out, by omega⟩
        case measure => simp [intOf]; omega
    · obtain ⟨b, r', e1, e2, e3, e4, e5, e6, e7, e8⟩ := put_last (s := s) (t := t) (r := r) (by omega) HT.out
      go_wp2_with fail
      have HP := Lib.hid (put_any wr HO.out.at_ t (by unfold maxLen; omega))
      rw [e1, e2, e3] at HP
      refine HP.out.mono ?_
      rintro e w3 ⟨rfl, U, hat, hf, hx⟩
      have HO3 := Lib.hid (HO.out.wrote hat hf hx)
      clear hat hf hx HP HO e1 e2 e3
      have HX := Lib.hid (text_any w3 HO3.out.at_ b)
      rw [e4, e5] at HX
      have HF := Lib.hid (find_any w3 HO3.out.at_ s (by unfold maxLen; omega))
      rw [(place_first _ _).2.2] at HF
      clear e4 e5
      by_cases he : s = t
      · obtain rfl := e6 he
        subst he
        clear e6 e7 e8
        go_wp2_with (first
          | (go_at_call 14; refine HX.out.mono ?_; rintro e w' ⟨rfl, rfl⟩)
          | (go_at_call 12; refine HF.out.mono ?_; rintro e w' ⟨rfl, rfl⟩)
          | (go_at_call 6; refine (HA.out _).mono ?_; rintro e w4 ⟨rfl, hb⟩; have HB := Lib.hid hb; clear hb))
        go_ret
        exact ⟨rfl, HO3.out.below.trans (HB.out.mono HO3.out.below.size)⟩
      · have hb := e7 he
        have hne := bytes_ne he
        have hz : ((0 : Int) == (b : Int)) = false := by rw [beq_eq_false_iff_ne]; omega
        have hz2 : ((b : Int) == 0) = false := by rw [beq_eq_false_iff_ne]; omega
        clear e6 e7 he
        go_wp2_with (first
          | (go_at_call 14; refine HX.out.mono ?_; rintro e w' ⟨rfl, rfl⟩)
          | (go_at_call 12; refine HF.out.mono ?_; rintro e w' ⟨rfl, rfl⟩)
          | (go_at_call 6; refine (HA.out _).mono ?_; rintro e w4 ⟨rfl, hb⟩; have HB := Lib.hid hb; clear hb))
        go_ret
        exact ⟨rfl, HO3.out.below.trans (HB.out.mono HO3.out.below.size)⟩

set_option maxHeartbeats 4000000 in
theorem stays_law (s t : ByteArray) (a : Option Addr) (len c : Nat) (W : World) (hg : len ≤ 60 → ∃ M : List ByteArray, M.length = len ∧ Sep.Reads a (M.map .string) W) :
    Calls Try.prog 4 #[.string s, .string t, .slice a len c] W (Yes W) := by
  have HA := Lib.hid awake_any
  by_cases h60 : len ≤ 60
  · by_cases hs0 : s.size = 0
    · obtain rfl := empty_of hs0
      clear hg hs0
      go_enter Try.func4, Try.ntmps4
      go_wp2_with (go_at_call 6; refine (HA.out _).mono ?_; rintro e w1 ⟨rfl, hb⟩; have HB := Lib.hid hb; clear hb)
      go_ret
      exact ⟨rfl, HB.out⟩
    · obtain ⟨s1, s2⟩ := not_empty hs0
      by_cases ht0 : t.size = 0
      · obtain rfl := empty_of ht0
        clear hg ht0
        go_enter Try.func4, Try.ntmps4
        go_wp2_with (go_at_call 6; refine (HA.out _).mono ?_; rintro e w1 ⟨rfl, hb⟩; have HB := Lib.hid hb; clear hb)
        go_ret
        exact ⟨rfl, HB.out⟩
      · obtain ⟨t1, t2⟩ := not_empty ht0
        by_cases hs24 : 24 < s.size
        · clear hg
          go_enter Try.func4, Try.ntmps4
          go_wp2_with (go_at_call 6; refine (HA.out _).mono ?_; rintro e w1 ⟨rfl, hb⟩; have HB := Lib.hid hb; clear hb)
          go_ret
          exact ⟨rfl, HB.out⟩
        · by_cases ht24 : 24 < t.size
          · clear hg
            go_enter Try.func4, Try.ntmps4
            go_wp2_with (go_at_call 6; refine (HA.out _).mono ?_; rintro e w1 ⟨rfl, hb⟩; have HB := Lib.hid hb; clear hb)
            go_ret
            exact ⟨rfl, HB.out⟩
          · obtain ⟨M, rfl, hM⟩ := hg h60
            exact stays_main s t a c M W hM h60 (by simp [okLen]; omega) (by simp [okLen]; omega)
  · clear hg
    go_enter Try.func4, Try.ntmps4
    go_wp2_with (go_at_call 6; refine (HA.out _).mono ?_; rintro e w1 ⟨rfl, hb⟩; have HB := Lib.hid hb; clear hb)
    go_ret
    exact ⟨rfl, HB.out⟩

end Go.Proofs.Ytbnfnkjjjpdncaa.It
