/- A part of the proof. -/
import Derived.Test.YtbcgmiocolpjoaaGreatPk02
import Derived.Test.YtbcgmiocolpjoaaGreatPk07
set_option maxHeartbeats 4000000
set_option linter.unusedVariables false
namespace Go.Proofs.YtbcgmiocolpjoaaGreat
open Go.RowKit Go.Maps
namespace Gr
def zB7 (s : ByteArray) : Bool := s.data.toList.head? == some 39
theorem zEj {s : ByteArray} (h : zB7 s = true) : ∃ h : 0 < s.size, (s[0]'h).toNat = 39 := by
 rcases s with ⟨⟨l⟩⟩
 cases l with
 | nil => simp [zB7] at h
 | cons b r =>
  simp [zB7] at h
  subst h
  exact ⟨by simp [ByteArray.size], rfl⟩
theorem zEi {s : ByteArray} (h : zB7 s = false) : ¬ ∃ h : 0 < s.size, (s[0]'h).toNat = 39 := by
 rintro ⟨h0, h1⟩
 rcases s with ⟨⟨l⟩⟩
 cases l with
 | nil => simp [ByteArray.size] at h0
 | cons b r =>
  simp [zB7] at h
  exact h (UInt8.toNat_inj.mp h1)
theorem zLH (s : ByteArray) : ((s.extract 0 1).toList == [39]) = zB7 s := by
 rw [ByteArray.toList_eq, Ch.zKc]
 rcases s with ⟨⟨l⟩⟩
 cases l with
 | nil => rfl
 | cons b r => simp [zB7]
theorem zIB (s : ByteArray) (w : World) : Calls Tryz.prog 115 #[.string s, .string ⟨#[39]⟩] w fun e w' => e = .returned (.bool (zB7 s)) /\ w = w' := by
 by_cases h0 : 0 < s.size
 ·have E := zPB (zLH s)
  go_enter Tryz.func115, Tryz.ntmps115
  go_wp2
  go_ret
  exact ⟨zAA E.out.symm, rfl⟩
 ·have E := zPB (show zB7 s = false by
   have : s.data.toList = [] := by
    have : s.data.toList.length = s.size := rfl
    exact List.eq_nil_of_length_eq_zero (by omega)
   unfold zB7
   rw [this]; rfl)
  go_enter Tryz.func115, Tryz.ntmps115
  go_wp2
  go_ret
  exact ⟨zAA E.out, rfl⟩
theorem zEh (s : ByteArray) (w : World) : Calls Tryz.prog 102 #[.string s, .string ⟨#[39]⟩] w fun e w' => e = .returned (.bool (zB7 s)) /\ w = w' := by
 have H := zPB (zIB s w)
 go_enter Tryz.func102, Tryz.ntmps102
 go_wp2_with (go_at_call 115; refine H.out.mono ?_; rintro e w' ⟨rfl, rfl⟩)
 go_ret
 exact ⟨rfl, rfl⟩
theorem zCO (e at_ : Int) (w : World) (hne : ¬ e = 0) : Calls Tryz.prog 117 #[.int .i64 e, .int .i64 at_] w fun x w' => x = .returned (.iface 170 (.agg #[.int .i64 e, .int .i64 at_])) /\ w = w' := by
 go_enter Tryz.func117, Tryz.ntmps117
 go_wp2
 go_ret
 exact ⟨rfl, rfl⟩
def zOD (w : World) (e : Ending) (w' : World) : Prop := ∃ x, e = .returned (.tuple #[.int .i64 0, .int .i64 0, .iface 170 x]) /\ w = w'
theorem zDd (s : ByteArray) (at_ : Int) (w : World) : Calls Tryz.prog 116 #[.string s, .int .i64 at_] w (zOD w) := by
 go_enter Tryz.func116, Tryz.ntmps116
 go_wp2_with (go_at_call 117; refine (zCO _ _ _ (by decide)).mono ?_; rintro e w' ⟨rfl, rfl⟩)
 go_ret3
 exact ⟨_, rfl, rfl⟩
theorem zIE (s : ByteArray) (k : Nat) (w : World) (hc : Closes s k) (hs : s.size <= 140737488355328) :
  Calls Tryz.prog 103 #[.string s, .int .i64 0] w fun e w' => e = .returned (.tuple #[.int .i64 2, .int .i64 ((k : Int) + 1), .nilIface]) /\ w = w' := by
 have C := zPB hc
 obtain ⟨h2, h24, _, hk, h39⟩ := hc
 have h39' : ((s[k]'hk).toNat : Int) = 39 := by omega
 clear h39
 go_enter Tryz.func103, Tryz.ntmps103
 go_wp2
 go_loop [7] (fun i => ∃ j : Nat, 1 <= j /\ j <= k /\ i = .int .i64 j) (fun i => k - (intOf i).toNat)
 case atStart => exact ⟨1, by omega, by omega, by go_num⟩
 case round =>
  obtain ⟨j, hj1, hj2, rfl⟩ := hrel
  by_cases e : j = k
  ·subst e
   go_wp2
   go_ret3
   exact ⟨rfl, rfl⟩
  ·have hjs : j < s.size := by omega
   have hi := zDx C.out hjs hj1 (by omega)
   simp only [insB, decide_eq_true_eq] at hi
   obtain ⟨i1, i2, i3⟩ := hi
   go_wp2
   go_round
   case rel => exact ⟨j + 1, by omega, by omega, by go_num⟩
   case measure => simp [intOf]; omega
theorem zJ6 (s : ByteArray) (w : World) (hc : ¬ ∃ k, Closes s k) (hs : s.size <= 140737488355328) :
  Calls Tryz.prog 103 #[.string s, .int .i64 0] w (zOD w) := by
 have C := zPB hc
 clear hc
 go_enter Tryz.func103, Tryz.ntmps103
 go_wp2
 go_loop [7] (fun i => ∃ j : Nat, 1 <= j /\ j <= 24 /\ i = .int .i64 j /\ InTo s j) (fun i => 25 - (intOf i).toNat)
 case atStart => exact ⟨1, by omega, by omega, by go_num, zGp s⟩
 case round =>
  obtain ⟨j, hj1, hj2, rfl, hI⟩ := hrel
  have I := zPB hI
  clear hI
  by_cases hlt : j < s.size
  ·by_cases e1 : ((s[j]'hlt).toNat : Int) < 33
   ·have e39 : ¬ ((s[j]'hlt).toNat : Int) = 39 := by omega
    go_wp2_with (go_at_call 116; refine (zDd _ _ _).mono ?_; rintro e w' ⟨x, rfl, rfl⟩)
    go_ret3
    exact ⟨_, rfl, rfl⟩
   ·by_cases e2 : 126 < ((s[j]'hlt).toNat : Int)
    ·have e39 : ¬ ((s[j]'hlt).toNat : Int) = 39 := by omega
     go_wp2_with (go_at_call 116; refine (zDd _ _ _).mono ?_; rintro e w' ⟨x, rfl, rfl⟩)
     go_ret3
     exact ⟨_, rfl, rfl⟩
    ·by_cases e3 : ((s[j]'hlt).toNat : Int) = 39
     ·by_cases e4 : j = 1
      ·subst e4
       go_wp2_with (go_at_call 116; refine (zDd _ _ _).mono ?_; rintro e w' ⟨x, rfl, rfl⟩)
       go_ret3
       exact ⟨_, rfl, rfl⟩
      ·by_cases e5 : 24 <= j
       ·clear e1 e2
        have e6 : ¬ (j : Int) = 1 := by omega
        go_wp2_with (go_at_call 117; refine (zCO _ _ _ (by decide)).mono ?_; rintro e w' ⟨rfl, rfl⟩)
        go_ret3
        exact ⟨_, rfl, rfl⟩
       ·exact absurd ⟨j, by omega, by omega, I.out, hlt, by omega⟩ C.out
     ·by_cases e5 : 24 <= j
      ·go_wp2_with (go_at_call 117; refine (zCO _ _ _ (by decide)).mono ?_; rintro e w' ⟨rfl, rfl⟩)
       go_ret3
       exact ⟨_, rfl, rfl⟩
      ·have I2 := zPB (zFU I.out hlt (by simp only [insB, decide_eq_true_eq]; omega))
       go_wp2
       go_round
       case rel => exact ⟨j + 1, by omega, by omega, by go_num, I2.out⟩
       case measure => simp [intOf]; omega
  ·go_wp2_with (go_at_call 117; refine (zCO _ _ _ (by decide)).mono ?_; rintro e w' ⟨rfl, rfl⟩)
   go_ret3
   exact ⟨_, rfl, rfl⟩
theorem zF9 (s : ByteArray) (w : World) (hs : s.size <= 140737488355328) : Calls Tryz.prog 89 #[.string s] w fun e w' => e = .returned (.bool (quoS s)) /\ w = w' := by
 have P := zPB (zEh s w)
 cases h0 : zB7 s with
 | false =>
  rw [h0] at P
  have E := zPB (zJ5 (zEi h0))
  go_enter Tryz.func89, Tryz.ntmps89
  go_wp2_with (go_at_call 102; refine P.out.mono ?_; rintro e w' ⟨rfl, rfl⟩)
  go_ret
  exact ⟨zAA E.out, rfl⟩
 | true =>
  rw [h0] at P
  by_cases hc : ∃ k, Closes s k
  ·obtain ⟨k, hc⟩ := hc
   have E := zPB (zHF (zEj h0) hc)
   have Q := zPB (zIE s k w hc hs)
   by_cases e : k + 1 = s.size
   ·rw [decide_eq_true e] at E
    have e' : ((k : Int) + 1) = (s.size : Int) := by omega
    rw [e'] at Q
    clear hc e e'
    go_enter Tryz.func89, Tryz.ntmps89
    go_wp2_with (first | (go_at_call 102; refine P.out.mono ?_; rintro e w' ⟨rfl, rfl⟩) | (go_at_call 103; refine Q.out.mono ?_; rintro e w' ⟨rfl, rfl⟩))
    go_ret
    exact ⟨zAA E.out, rfl⟩
   ·rw [decide_eq_false e] at E
    have e' : (((k : Int) + 1) == (s.size : Int)) = false := by
     rw [beq_eq_false_iff_ne]
     omega
    clear hc e
    go_enter Tryz.func89, Tryz.ntmps89
    go_wp2_with (first | (go_at_call 102; refine P.out.mono ?_; rintro e w' ⟨rfl, rfl⟩) | (go_at_call 103; refine Q.out.mono ?_; rintro e w' ⟨rfl, rfl⟩))
    go_ret
    exact ⟨zAA E.out, rfl⟩
  ·have E := zPB (zHE hc)
   have Q := zPB (zJ6 s w hc hs)
   clear hc
   go_enter Tryz.func89, Tryz.ntmps89
   go_wp2_with (first | (go_at_call 102; refine P.out.mono ?_; rintro e w' ⟨rfl, rfl⟩) | (go_at_call 103; refine Q.out.mono ?_; rintro e w' ⟨x, rfl, rfl⟩))
   go_ret
   exact ⟨zAA E.out, rfl⟩
theorem zAx (x : Int) (w : World) (h0 : 0 <= x) (h1 : x <= 255) : Calls Tryz.prog 111 #[.int .u8 x] w fun e w' => e = .returned (.bool (insB x)) /\ w = w' := by
 go_enter Tryz.func111, Tryz.ntmps111
 go_wp2
 all_goals
  go_ret
  refine ⟨zAA ?_, rfl⟩
  go_light
  unfold insB
  first | (rw [decide_eq_true_iff]; omega) | (rw [decide_eq_false_iff_not]; omega) | (rw [Bool.eq_iff_iff]; simp only [decide_eq_true_eq, bne_iff_ne, ne_eq]; omega)
def zMS (n e x : Int) (w : World) (en : Ending) (w' : World) : Prop := en = .returned (.tuple #[.int .i64 n, .agg #[.int .i64 e, .int .i64 x]]) /\ Below w.heap.size w w'
def zIZ (w : World) (en : Ending) (w' : World) : Prop := ∃ e x : Int, (e == 0) = false /\ zMS 0 e x w en w'
theorem zGU (s : ByteArray) (k : Nat) (w : World) (hc : Closes s k) (hs : s.size <= 140737488355328) :
  Calls Tryz.prog 98 #[.string s, .int .i64 0] w (zMS ((k : Int) + 1) 0 0 w) := by
 have C := zPB hc
 obtain ⟨h2, h24, _, hk, h39⟩ := hc
 have h39' : ((s[k]'hk).toNat : Int) = 39 := by omega
 have B := zPB (fun o => boxed w o)
 have I39 := zPB (show insB 39 = false by decide)
 clear h39
 go_enter Tryz.func98, Tryz.ntmps98
 go_wp2
 go_loop [6] (fun i => ∃ j : Nat, 1 <= j /\ j <= k /\ i = .int .i64 j) (fun i => k - (intOf i).toNat)
 case atStart => exact ⟨1, by omega, by omega, by go_num⟩
 case round =>
  obtain ⟨j, hj1, hj2, rfl⟩ := hrel
  by_cases e : j = k
  ·subst e
   go_wp2_with (go_at_call 111; refine (zAx _ _ (by omega) (by omega)).mono ?_; rw [I39.out]; rintro e w' ⟨rfl, rfl⟩)
   exact bodyPost_ret (v := .tuple #[.int .i64 ((j : Int) + 1), .agg #[.int .i64 0, .int .i64 0]]) (by simp [results, Tryz.results98, go_sem]) rfl ⟨rfl, B.out _⟩
  ·have hjs : j < s.size := by omega
   have hi := zPB (zDx C.out hjs hj1 (by omega))
   have hb1 := Ch.zF2 (s[j]'hjs)
   go_wp2_with (go_at_call 111; refine (zAx _ _ (by omega) (by omega)).mono ?_; rw [hi.out]; rintro e w' ⟨rfl, rfl⟩)
   go_round
   case rel => exact ⟨j + 1, by omega, by omega, by go_num⟩
   case measure => simp [intOf]; omega
theorem zIK (s : ByteArray) (w : World) (hc : ¬ ∃ k, Closes s k) (hs : s.size <= 140737488355328) (hp : 0 < s.size) :
  Calls Tryz.prog 98 #[.string s, .int .i64 0] w (zIZ w) := by
 have C := zPB hc
 have B := zPB (fun o => boxed w o)
 have I39 := zPB (show insB 39 = false by decide)
 clear hc
 go_enter Tryz.func98, Tryz.ntmps98
 go_wp2
 go_loop [6] (fun i => ∃ j : Nat, 1 <= j /\ j <= s.size /\ i = .int .i64 j /\ InTo s j) (fun i => s.size - (intOf i).toNat)
 case atStart => exact ⟨1, by omega, by omega, by go_num, zGp s⟩
 case round =>
  obtain ⟨j, hj1, hj2, rfl, hI⟩ := hrel
  have I := zPB hI
  clear hI
  by_cases hlt : j < s.size
  ·have hb1 := Ch.zF2 (s[j]'hlt)
   cases hi : insB ((s[j]'hlt).toNat : Int) with
   | true =>
    have I2 := zPB (zFU I.out hlt hi)
    have HI := zPB hi
    clear hi
    go_wp2_with (go_at_call 111; refine (zAx _ _ (by omega) (by omega)).mono ?_; rw [HI.out]; rintro e w' ⟨rfl, rfl⟩)
    go_round
    case rel => exact ⟨j + 1, by omega, by omega, by go_num, I2.out⟩
    case measure => simp [intOf]; omega
   | false =>
    have HI := zPB hi
    clear hi
    by_cases e3 : ((s[j]'hlt).toNat : Int) = 39
    ·by_cases e4 : j = 1
     ·subst e4
      go_wp2_with (go_at_call 111; refine (zAx _ _ (by omega) (by omega)).mono ?_; rw [I39.out]; rintro e w' ⟨rfl, rfl⟩)
      exact bodyPost_ret (v := .tuple #[.int .i64 0, .agg #[.int .i64 2, .int .i64 1]]) (by simp [results, Tryz.results98, go_sem]) rfl ⟨2, 1, rfl, rfl, B.out _⟩
     ·by_cases e5 : 24 <= j
      ·have e6 : ¬ (j : Int) = 1 := by omega
       go_wp2_with (go_at_call 111; refine (zAx _ _ (by omega) (by omega)).mono ?_; rw [I39.out]; rintro e w' ⟨rfl, rfl⟩)
       exact bodyPost_ret (v := .tuple #[.int .i64 0, .agg #[.int .i64 5, .int .i64 0]]) (by simp [results, Tryz.results98, go_sem]) rfl ⟨5, 0, rfl, rfl, B.out _⟩
      ·exact absurd ⟨j, by omega, by omega, I.out, hlt, by omega⟩ C.out
    ·have e7 : (((s[j]'hlt).toNat : Int) != 39) = true := by simpa using e3
     clear e3
     go_wp2_with (go_at_call 111; refine (zAx _ _ (by omega) (by omega)).mono ?_; rw [HI.out]; rintro e w' ⟨rfl, rfl⟩)
     exact bodyPost_ret (v := .tuple #[.int .i64 0, .agg #[.int .i64 2, .int .i64 j]]) (by simp [results, Tryz.results98, go_sem]) rfl ⟨2, _, rfl, rfl, B.out _⟩
  ·go_wp2_with (go_at_call 111; fail)
   exact bodyPost_ret (v := .tuple #[.int .i64 0, .agg #[.int .i64 4, .int .i64 s.size]]) (by simp [results, Tryz.results98, go_sem]) rfl ⟨4, _, rfl, rfl, B.out _⟩
theorem zHt {s : ByteArray} (h : ¬ 0 < s.size) : zB7 s = false := by
 have : s.data.toList = [] := by
  have : s.data.toList.length = s.size := rfl
  exact List.eq_nil_of_length_eq_zero (by omega)
 unfold zB7
 rw [this]; rfl
theorem zHp {s : ByteArray} (h : ¬ 0 < s.size) : s.toList = [] := by
 rw [ByteArray.toList_eq]
 have : s.data.toList.length = s.size := rfl
 exact List.eq_nil_of_length_eq_zero (by omega)
theorem zI6 {s : ByteArray} (h : 0 < s.size) : ¬ s.toList = [] := by
 rw [ByteArray.toList_eq]
 intro e
 have : s.data.toList.length = s.size := rfl
 rw [e] at this
 simp at this
 omega
theorem zOe (s : ByteArray) (w : World) (hs : s.size <= 140737488355328) : Calls Tryz.prog 79 #[.string s] w (Is (.bool (quoS s)) w) := by
 by_cases hp : 0 < s.size
 ·have hl := zI6 hp
  have hl2 : s.toList.isEmpty = false := by simpa using hl
  cases h0 : zB7 s with
  | false =>
   have E := zPB (zJ5 (zEi h0))
   have e0 : (((s[0]'hp).toNat : Int) != 39) = true := by
    rw [bne_iff_ne]
    intro e
    exact zEi h0 ⟨hp, by omega⟩
   clear h0
   go_enter Tryz.func79, Tryz.ntmps79
   go_wp2
   go_ret
   exact ⟨zAA E.out, .refl _ _⟩
  | true =>
   obtain ⟨_, h39⟩ := zEj h0
   have h39' : (((s[0]'hp).toNat : Int) != 39) = false := by simp [h39]
   by_cases hc : ∃ k, Closes s k
   ·obtain ⟨k, hc⟩ := hc
    have E := zPB (zHF (zEj h0) hc)
    have Q := zPB (zGU s k w hc hs)
    clear h0 h39
    by_cases e : k + 1 = s.size
    ·rw [decide_eq_true e] at E
     have e' : ((k : Int) + 1) = (s.size : Int) := by omega
     rw [e'] at Q
     clear hc e e'
     go_enter Tryz.func79, Tryz.ntmps79
     go_wp2_with (go_at_call 98; refine Q.out.mono ?_; rintro e w' ⟨rfl, hb⟩; have HB := zPB hb; clear hb)
     go_ret
     exact ⟨zAA E.out, step HB.out (boxed _ _)⟩
    ·rw [decide_eq_false e] at E
     have e' : (((k : Int) + 1) == (s.size : Int)) = false := by
      rw [beq_eq_false_iff_ne]
      omega
     clear hc e
     go_enter Tryz.func79, Tryz.ntmps79
     go_wp2_with (go_at_call 98; refine Q.out.mono ?_; rintro e w' ⟨rfl, hb⟩; have HB := zPB hb; clear hb)
     go_ret
     exact ⟨zAA E.out, step HB.out (boxed _ _)⟩
   ·have E := zPB (zHE hc)
    have Q := zPB (zIK s w hc hs hp)
    clear hc h0 h39
    go_enter Tryz.func79, Tryz.ntmps79
    go_wp2_with (go_at_call 98; refine Q.out.mono ?_; rintro e w' ⟨q, x, hq, rfl, hb⟩; have HB := zPB hb; clear hb)
    go_ret
    exact ⟨zAA E.out, step HB.out (boxed _ _)⟩
 ·have hl := zHp hp
  have E := zPB (zJ5 (zEi (zHt hp)))
  go_enter Tryz.func79, Tryz.ntmps79
  go_wp2
  go_ret
  exact ⟨zAA E.out, .refl _ _⟩
theorem zFg (s : ByteArray) (w : World) (hs : s.size <= 140737488355328) : Calls Tryz.prog 88 #[.string s] w (Is (.bool (plnS s)) w) := by
 have N := zPB (Ch.zEu s w)
 by_cases h : s.size <= 24
 ·have E := zPB (show plnS s = Ch.namB s.data.toList by simp [plnS, h])
  go_enter Tryz.func88, Tryz.ntmps88
  go_wp2_with (go_at_call 101; refine N.out.mono ?_; rintro e w' ⟨rfl, hb⟩; have HB := zPB hb; clear hb)
  go_ret
  exact ⟨zAA E.out, HB.out⟩
 ·have E := zPB (show plnS s = false by simp [plnS, h])
  go_enter Tryz.func88, Tryz.ntmps88
  go_wp2
  go_ret
  exact ⟨zAA E.out, .refl _ _⟩
theorem zEL (s : ByteArray) (w : World) (hs : s.size <= 140737488355328) : Calls Tryz.prog 78 #[.string s] w (Is (.bool (plnS s)) w) := by
 have N := zPB (Ch.zKF s w (by unfold maxLen; omega))
 cases hn : Ch.namB s.data.toList with
 | false =>
  rw [hn] at N
  have E := zPB (show plnS s = false by simp [plnS, hn])
  clear hn
  go_enter Tryz.func78, Tryz.ntmps78
  go_wp2_with (go_at_call 97; refine N.out.mono ?_; rintro e w' ⟨rfl, rfl⟩)
  go_ret
  exact ⟨zAA E.out, .refl _ _⟩
 | true =>
  rw [hn] at N
  have E := zPB (show plnS s = decide (s.size <= 24) by simp [plnS, hn])
  clear hn
  go_enter Tryz.func78, Tryz.ntmps78
  go_wp2_with (go_at_call 97; refine N.out.mono ?_; rintro e w' ⟨rfl, rfl⟩)
  go_ret
  refine ⟨zAA ?_, .refl _ _⟩
  rw [E.out, Bool.eq_iff_iff]
  simp only [decide_eq_true_eq]
  omega
def zCx {α : Type} (p : α -> Bool) (L : List α) (k : Nat) : Prop := ∀ j (h : j < L.length), j < k -> p L[j] = true
theorem zAo {α : Type} (p : α -> Bool) (L : List α) : zCx p L 0 := fun _ _ h => absurd h (by omega)
theorem zAn {α : Type} {p : α -> Bool} {L : List α} {k : Nat} (h : zCx p L k) (hk : k < L.length) (e : p L[k] = true) : zCx p L (k + 1) := fun j hj hl => by
 by_cases he : j = k
 ·subst he
  exact e
 ·exact h j hj (by omega)
theorem zBh {α : Type} {p : α -> Bool} {L : List α} {k : Nat} (h : zCx p L k) (hk : ¬ k < L.length) : L.all p = true := by
 rw [List.all_eq_true]
 intro x hx
 obtain ⟨j, hj, rfl⟩ := List.mem_iff_getElem.1 hx
 exact h j hj (by omega)
theorem zBO {α : Type} {p : α -> Bool} {L : List α} {k : Nat} (hk : k < L.length) (e : p L[k] = false) : L.all p = false := by
 rw [List.all_eq_false]
 exact ⟨_, List.getElem_mem hk, by simp [e]⟩
noncomputable def tokS (s : ByteArray) : Bool := plnS s || quoS s
theorem zI4 (G : Gram) : zBk G = (G.terms.all tokS && G.nons.all plnS) := rfl
theorem zEQ {L : List ByteArray} {a : Option Addr} {w : World} (h : Sep.Reads a (L.map .string) w) {k : Nat} (hk : k < L.length) : ∃ b o, a = some ⟨b, o, none⟩ /\ w.cell? ⟨b, o + k, none⟩ = some (.string L[k]) :=
 zBH h (by simp) hk (by simp [hk])
theorem zFe (h : Sh) (G : Gram) (w : World) (k : GAt h G w) :
  Calls Tryz.prog 61 #[gv h G] w (Is (.bool (!zBk G)) w) := by
 have t := k.t2
 have n := k.n2
 have TS := zPB k.ok.terms
 have NS := zPB k.ok.nons
 obtain ⟨a1, c1, a2, c2, a3, c3⟩ := h
 have X := zPB (Bx.start ⟨a1, c1, a2, c2, a3, c3⟩ G w 25)
 have HT := zPB (show ∀ w1, Below w.heap.size w w1 -> Sep.Reads a1 (G.terms.map .string) w1 from fun w1 (b : Below w.heap.size w w1) => (k.went b).terms)
 have HN := zPB (show ∀ w1, Below w.heap.size w w1 -> Sep.Reads a2 (G.nons.map .string) w1 from fun w1 (b : Below w.heap.size w w1) => (k.went b).nons)
 clear k
 have E := zPB (zI4 G)
 unfold gv
 dsimp only
 go_enter Tryz.func61, Tryz.ntmps61
 go_wp2
 go_loopw [10] (fun i wr => ∃ j : Nat, j <= G.terms.length /\ i = .int .i64 j /\ zCx tokS G.terms j /\ Bx w ⟨a1, c1, a2, c2, a3, c3⟩ G wr) (fun i _ => G.terms.length - (intOf i).toNat)
 case atStart => exact ⟨0, Nat.zero_le _, rfl, zAo _ _, X.out⟩
 case round =>
  clear X
  obtain ⟨j, hj, rfl, hA, hX⟩ := hrel
  have A := zPB hA
  have X := zPB hX
  clear hA hX
  by_cases hlt : j < G.terms.length
  ·obtain ⟨b, o, rfl, hc⟩ := zEQ (HT.out _ X.out.below) hlt
   have hs := TS.out _ (List.getElem_mem hlt)
   have AE := zPB (fun he => zAn A.out hlt he)
   have AF := zPB (fun he => zBO (p := tokS) hlt he)
   generalize G.terms[j] = s at hc hs AE AF
   have P := zPB (fun w1 => zFg s w1 hs)
   have Q := zPB (fun w1 => zF9 s w1 hs)
   cases hp : plnS s with
   | true =>
    rw [hp] at P
    have A2 := zPB (AE.out (by simp [tokS, hp]))
    clear hp
    go_wp2_with (go_at_call 88; refine (P.out _).mono ?_; rintro e w1 ⟨rfl, hb⟩; have X := zPB (X.out.went hb); clear hb)
    go_roundw
    case rel => exact ⟨j + 1, by omega, by go_num, A2.out, X.out⟩
    case measure => simp [intOf]; omega
   | false =>
    rw [hp] at P
    cases hq : quoS s with
    | true =>
     rw [hq] at Q
     have A2 := zPB (AE.out (by simp [tokS, hq]))
     clear hp hq
     go_wp2_with (first
      | (go_at_call 88; refine (P.out _).mono ?_; rintro e w1 ⟨rfl, hb⟩; have X := zPB (X.out.went hb); clear hb)
      | (go_at_call 89; refine (Q.out _).mono ?_; rintro e w2 ⟨rfl, rfl⟩))
     go_roundw
     case rel => exact ⟨j + 1, by omega, by go_num, A2.out, X.out⟩
     case measure => simp [intOf]; omega
    | false =>
     rw [hq] at Q
     have F := zPB (AF.out (by simp [tokS, hp, hq]))
     clear hp hq
     go_wp2_with (first
      | (go_at_call 88; refine (P.out _).mono ?_; rintro e w1 ⟨rfl, hb⟩; have X := zPB (X.out.went hb); clear hb)
      | (go_at_call 89; refine (Q.out _).mono ?_; rintro e w2 ⟨rfl, rfl⟩))
     go_ret
     exact ⟨zAA (by rw [E.out, F.out]; rfl), X.out.below⟩
  ·have F1 := zPB (zBh A.out hlt)
   rw [F1.out, Bool.true_and] at E
   obtain ⟨x0, x1, x2, x3⟩ := X.out.box
   clear A F1 HT hj
   go_wp2
   clear x0 x1 x2 x3 hlt
   go_loopw [26] (fun i wr => ∃ j : Nat, j <= G.nons.length /\ i = .int .i64 j /\ zCx plnS G.nons j /\ Bx w ⟨a1, c1, a2, c2, a3, c3⟩ G wr) (fun i _ => G.nons.length - (intOf i).toNat)
   case atStart => exact ⟨0, Nat.zero_le _, rfl, zAo _ _, X.out⟩
   case round =>
    clear X
    obtain ⟨j, hj, rfl, hA, hX⟩ := hrel
    have A := zPB hA
    have X := zPB hX
    clear hA hX
    by_cases hlt : j < G.nons.length
    ·obtain ⟨b, o, rfl, hc⟩ := zEQ (HN.out _ X.out.below) hlt
     have hs := NS.out _ (List.getElem_mem hlt)
     have AE := zPB (fun he => zAn A.out hlt he)
     have AF := zPB (fun he => zBO (p := plnS) hlt he)
     generalize G.nons[j] = s at hc hs AE AF
     have P := zPB (fun w1 => zFg s w1 hs)
     cases hp : plnS s with
     | true =>
      rw [hp] at P
      have A2 := zPB (AE.out hp)
      clear hp
      go_wp2_with (go_at_call 88; refine (P.out _).mono ?_; rintro e w1 ⟨rfl, hb⟩; have X := zPB (X.out.went hb); clear hb)
      go_roundw
      case rel => exact ⟨j + 1, by omega, by go_num, A2.out, X.out⟩
      case measure => simp [intOf]; omega
     | false =>
      rw [hp] at P
      have F := zPB (AF.out hp)
      clear hp
      go_wp2_with (go_at_call 88; refine (P.out _).mono ?_; rintro e w1 ⟨rfl, hb⟩; have X := zPB (X.out.went hb); clear hb)
      go_ret
      exact ⟨zAA (by rw [E.out, F.out]; rfl), X.out.below⟩
    ·have F := zPB (zBh A.out hlt)
     go_wp2
     go_ret
     exact ⟨zAA (by rw [E.out, F.out]; rfl), X.out.below⟩
theorem zJ9 (h : Sh) (G : Gram) (w : World) (k : GAt h G w) :
  Calls Tryz.prog 50 #[gv h G] w (Is (.bool (zBk G)) w) := by
 have t := k.t2
 have n := k.n2
 have TS := zPB k.ok.terms
 have NS := zPB k.ok.nons
 obtain ⟨a1, c1, a2, c2, a3, c3⟩ := h
 have X := zPB (Bx.start ⟨a1, c1, a2, c2, a3, c3⟩ G w 25)
 have HT := zPB (show ∀ w1, Below w.heap.size w w1 -> Sep.Reads a1 (G.terms.map .string) w1 from fun w1 (b : Below w.heap.size w w1) => (k.went b).terms)
 have HN := zPB (show ∀ w1, Below w.heap.size w w1 -> Sep.Reads a2 (G.nons.map .string) w1 from fun w1 (b : Below w.heap.size w w1) => (k.went b).nons)
 clear k
 have E := zPB (zI4 G)
 unfold gv
 dsimp only
 go_enter Tryz.func50, Tryz.ntmps50
 go_wp2
 go_loopw [3] (fun i wr => ∃ j : Nat, j <= G.terms.length /\ i = .int .i64 j /\ zCx tokS G.terms j /\ Bx w ⟨a1, c1, a2, c2, a3, c3⟩ G wr) (fun i _ => G.terms.length - (intOf i).toNat)
 case atStart => exact ⟨0, Nat.zero_le _, rfl, zAo _ _, X.out⟩
 case round =>
  clear X
  obtain ⟨j, hj, rfl, hA, hX⟩ := hrel
  have A := zPB hA
  have X := zPB hX
  clear hA hX
  obtain ⟨x0, x1, x2, x3⟩ := X.out.box
  by_cases hlt : j < G.terms.length
  ·obtain ⟨b, o, rfl, hc⟩ := zEQ (HT.out _ X.out.below) hlt
   have hs := TS.out _ (List.getElem_mem hlt)
   have AE := zPB (fun he => zAn A.out hlt he)
   have AF := zPB (fun he => zBO (p := tokS) hlt he)
   generalize G.terms[j] = s at hc hs AE AF
   have P := zPB (fun w1 => zEL s w1 hs)
   have Q := zPB (fun w1 => zOe s w1 hs)
   cases hp : plnS s with
   | true =>
    rw [hp] at P
    have A2 := zPB (AE.out (by simp [tokS, hp]))
    clear hp
    go_wp2_with (go_at_call 78; refine (P.out _).mono ?_; rintro e w1 ⟨rfl, hb⟩; have X := zPB (X.out.went hb); obtain ⟨x0, x1, x2, x3⟩ := X.out.box; have hc := cell_later hb hc; clear hb)
    go_roundw
    case rel => exact ⟨j + 1, by omega, by go_num, A2.out, X.out⟩
    case measure => simp [intOf]; omega
   | false =>
    rw [hp] at P
    cases hq : quoS s with
    | true =>
     rw [hq] at Q
     have A2 := zPB (AE.out (by simp [tokS, hq]))
     clear hp hq
     go_wp2_with (first
      | (go_at_call 78; refine (P.out _).mono ?_; rintro e w1 ⟨rfl, hb⟩; have X := zPB (X.out.went hb); obtain ⟨x0, x1, x2, x3⟩ := X.out.box; have hc := cell_later hb hc; clear hb)
      | (go_at_call 79; refine (Q.out _).mono ?_; rintro e w2 ⟨rfl, hb⟩; have X := zPB (X.out.went hb); clear hb))
     go_roundw
     case rel => exact ⟨j + 1, by omega, by go_num, A2.out, X.out⟩
     case measure => simp [intOf]; omega
    | false =>
     rw [hq] at Q
     have F := zPB (AF.out (by simp [tokS, hp, hq]))
     clear hp hq
     go_wp2_with (first
      | (go_at_call 78; refine (P.out _).mono ?_; rintro e w1 ⟨rfl, hb⟩; have X := zPB (X.out.went hb); obtain ⟨x0, x1, x2, x3⟩ := X.out.box; have hc := cell_later hb hc; clear hb)
      | (go_at_call 79; refine (Q.out _).mono ?_; rintro e w2 ⟨rfl, hb⟩; have X := zPB (X.out.went hb); clear hb))
     go_ret
     exact ⟨zAA (by rw [E.out, F.out]; rfl), X.out.below⟩
  ·have F1 := zPB (zBh A.out hlt)
   rw [F1.out, Bool.true_and] at E
   clear A F1 HT hj
   go_wp2
   clear x0 x1 x2 x3 hlt
   go_loopw [4] (fun i wr => ∃ j : Nat, j <= G.nons.length /\ i = .int .i64 j /\ zCx plnS G.nons j /\ Bx w ⟨a1, c1, a2, c2, a3, c3⟩ G wr) (fun i _ => G.nons.length - (intOf i).toNat)
   case atStart => exact ⟨0, Nat.zero_le _, rfl, zAo _ _, X.out⟩
   case round =>
    clear X
    obtain ⟨j, hj, rfl, hA, hX⟩ := hrel
    have A := zPB hA
    have X := zPB hX
    clear hA hX
    obtain ⟨x0, x1, x2, x3⟩ := X.out.box
    by_cases hlt : j < G.nons.length
    ·obtain ⟨b, o, rfl, hc⟩ := zEQ (HN.out _ X.out.below) hlt
     have hs := NS.out _ (List.getElem_mem hlt)
     have AE := zPB (fun he => zAn A.out hlt he)
     have AF := zPB (fun he => zBO (p := plnS) hlt he)
     generalize G.nons[j] = s at hc hs AE AF
     have P := zPB (fun w1 => zEL s w1 hs)
     cases hp : plnS s with
     | true =>
      rw [hp] at P
      have A2 := zPB (AE.out hp)
      clear hp
      go_wp2_with (go_at_call 78; refine (P.out _).mono ?_; rintro e w1 ⟨rfl, hb⟩; have X := zPB (X.out.went hb); clear hb)
      go_roundw
      case rel => exact ⟨j + 1, by omega, by go_num, A2.out, X.out⟩
      case measure => simp [intOf]; omega
     | false =>
      rw [hp] at P
      have F := zPB (AF.out hp)
      clear hp
      go_wp2_with (go_at_call 78; refine (P.out _).mono ?_; rintro e w1 ⟨rfl, hb⟩; have X := zPB (X.out.went hb); clear hb)
      go_ret
      exact ⟨zAA (by rw [E.out, F.out]), X.out.below⟩
    ·have F := zPB (zBh A.out hlt)
     go_wp2
     go_ret
     exact ⟨zAA (by rw [E.out, F.out]), X.out.below⟩
