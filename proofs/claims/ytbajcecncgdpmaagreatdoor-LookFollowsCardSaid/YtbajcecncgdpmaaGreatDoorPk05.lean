/- A part of the proof. -/
import Derived.Test.YtbajcecncgdpmaaGreatDoorPk02
import Derived.Test.YtbajcecncgdpmaaGreatDoorPk04
set_option maxHeartbeats 4000000
set_option linter.unusedVariables false
namespace Go.Proofs.YtbajcecncgdpmaaGreatDoor
open Go.RowKit Go.Maps
namespace Gr
def zCf (s : ByteArray) : Bool := s.data.toList.head? == some 39
theorem zFY {s : ByteArray} (h : zCf s = true) : ∃ h : 0 < s.size, (s[0]'h).toNat = 39 := by
 rcases s with ⟨⟨l⟩⟩
 cases l with
 | nil => simp [zCf] at h
 | cons b r =>
  simp [zCf] at h
  subst h
  exact ⟨by simp [ByteArray.size], rfl⟩
theorem zFX {s : ByteArray} (h : zCf s = false) : ¬ ∃ h : 0 < s.size, (s[0]'h).toNat = 39 := by
 rintro ⟨h0, h1⟩
 rcases s with ⟨⟨l⟩⟩
 cases l with
 | nil => simp [ByteArray.size] at h0
 | cons b r =>
  simp [zCf] at h
  exact h (UInt8.toNat_inj.mp h1)
theorem zNN (s : ByteArray) : ((s.extract 0 1).toList == [39]) = zCf s := by
 rw [ByteArray.toList_eq, Ch.zMW]
 rcases s with ⟨⟨l⟩⟩
 cases l with
 | nil => rfl
 | cons b r => simp [zCf]
theorem zJP (s : ByteArray) (w : World) : Calls Tryz.prog 164 #[.string s, .string ⟨#[39]⟩] w fun e w' => e = .returned (.bool (zCf s)) /\ w = w' := by
 by_cases h0 : 0 < s.size
 ·have E := zSt (zNN s)
  go_enter Tryz.func164, Tryz.ntmps164
  go_wp2
  go_ret
  exact ⟨zAD E.out.symm, rfl⟩
 ·have E := zSt (show zCf s = false by
   have : s.data.toList = [] := by
    have : s.data.toList.length = s.size := rfl
    exact List.eq_nil_of_length_eq_zero (by omega)
   unfold zCf
   rw [this]; rfl)
  go_enter Tryz.func164, Tryz.ntmps164
  go_wp2
  go_ret
  exact ⟨zAD E.out, rfl⟩
theorem zFW (s : ByteArray) (w : World) : Calls Tryz.prog 144 #[.string s, .string ⟨#[39]⟩] w fun e w' => e = .returned (.bool (zCf s)) /\ w = w' := by
 have H := zSt (zJP s w)
 go_enter Tryz.func144, Tryz.ntmps144
 go_wp2_with (go_at_call 164; refine H.out.mono ?_; rintro e w' ⟨rfl, rfl⟩)
 go_ret
 exact ⟨rfl, rfl⟩
theorem zCz (e at_ : Int) (w : World) (hne : ¬ e = 0) : Calls Tryz.prog 166 #[.int .i64 e, .int .i64 at_] w fun x w' => x = .returned (.iface 219 (.agg #[.int .i64 e, .int .i64 at_])) /\ w = w' := by
 go_enter Tryz.func166, Tryz.ntmps166
 go_wp2
 go_ret
 exact ⟨rfl, rfl⟩
def zQ9 (w : World) (e : Ending) (w' : World) : Prop := ∃ x, e = .returned (.tuple #[.int .i64 0, .int .i64 0, .iface 219 x]) /\ w = w'
theorem zER (s : ByteArray) (at_ : Int) (w : World) : Calls Tryz.prog 165 #[.string s, .int .i64 at_] w (zQ9 w) := by
 go_enter Tryz.func165, Tryz.ntmps165
 go_wp2_with (go_at_call 166; refine (zCz _ _ _ (by decide)).mono ?_; rintro e w' ⟨rfl, rfl⟩)
 go_ret3
 exact ⟨_, rfl, rfl⟩
theorem zJR (s : ByteArray) (k : Nat) (w : World) (hc : Closes s k) (hs : s.size <= 140737488355328) :
  Calls Tryz.prog 145 #[.string s, .int .i64 0] w fun e w' => e = .returned (.tuple #[.int .i64 2, .int .i64 ((k : Int) + 1), .nilIface]) /\ w = w' := by
 have C := zSt hc
 obtain ⟨h2, h24, _, hk, h39⟩ := hc
 have h39' : ((s[k]'hk).toNat : Int) = 39 := by omega
 clear h39
 go_enter Tryz.func145, Tryz.ntmps145
 go_wp2
 go_loop [7] (fun i => ∃ j : Nat, 1 <= j /\ j <= k /\ i = .int .i64 j) (fun i => k - (intOf i).toNat)
 case atStart => exact ⟨1, by omega, by omega, by go_num⟩
 case round =>
  obtain ⟨j, hj1, hj2, rfl⟩ := hrel
  by_cases e : j = k
  ·subst e
   go_wp2
   go_ret3
   exact ⟨rfl, rfl⟩
  ·have hjs : j < s.size := by omega
   have hi := zEs C.out hjs hj1 (by omega)
   simp only [insB, decide_eq_true_eq] at hi
   obtain ⟨i1, i2, i3⟩ := hi
   go_wp2
   go_round
   case rel => exact ⟨j + 1, by omega, by omega, by go_num⟩
   case measure => simp [intOf]; omega
theorem zL1 (s : ByteArray) (w : World) (hc : ¬ ∃ k, Closes s k) (hs : s.size <= 140737488355328) :
  Calls Tryz.prog 145 #[.string s, .int .i64 0] w (zQ9 w) := by
 have C := zSt hc
 clear hc
 go_enter Tryz.func145, Tryz.ntmps145
 go_wp2
 go_loop [7] (fun i => ∃ j : Nat, 1 <= j /\ j <= 24 /\ i = .int .i64 j /\ InTo s j) (fun i => 25 - (intOf i).toNat)
 case atStart => exact ⟨1, by omega, by omega, by go_num, zID s⟩
 case round =>
  obtain ⟨j, hj1, hj2, rfl, hI⟩ := hrel
  have I := zSt hI
  clear hI
  by_cases hlt : j < s.size
  ·by_cases e1 : ((s[j]'hlt).toNat : Int) < 33
   ·have e39 : ¬ ((s[j]'hlt).toNat : Int) = 39 := by omega
    go_wp2_with (go_at_call 165; refine (zER _ _ _).mono ?_; rintro e w' ⟨x, rfl, rfl⟩)
    go_ret3
    exact ⟨_, rfl, rfl⟩
   ·by_cases e2 : 126 < ((s[j]'hlt).toNat : Int)
    ·have e39 : ¬ ((s[j]'hlt).toNat : Int) = 39 := by omega
     go_wp2_with (go_at_call 165; refine (zER _ _ _).mono ?_; rintro e w' ⟨x, rfl, rfl⟩)
     go_ret3
     exact ⟨_, rfl, rfl⟩
    ·by_cases e3 : ((s[j]'hlt).toNat : Int) = 39
     ·by_cases e4 : j = 1
      ·subst e4
       go_wp2_with (go_at_call 165; refine (zER _ _ _).mono ?_; rintro e w' ⟨x, rfl, rfl⟩)
       go_ret3
       exact ⟨_, rfl, rfl⟩
      ·by_cases e5 : 24 <= j
       ·clear e1 e2
        have e6 : ¬ (j : Int) = 1 := by omega
        go_wp2_with (go_at_call 166; refine (zCz _ _ _ (by decide)).mono ?_; rintro e w' ⟨rfl, rfl⟩)
        go_ret3
        exact ⟨_, rfl, rfl⟩
       ·exact absurd ⟨j, by omega, by omega, I.out, hlt, by omega⟩ C.out
     ·by_cases e5 : 24 <= j
      ·go_wp2_with (go_at_call 166; refine (zCz _ _ _ (by decide)).mono ?_; rintro e w' ⟨rfl, rfl⟩)
       go_ret3
       exact ⟨_, rfl, rfl⟩
      ·have I2 := zSt (zGY I.out hlt (by simp only [insB, decide_eq_true_eq]; omega))
       go_wp2
       go_round
       case rel => exact ⟨j + 1, by omega, by omega, by go_num, I2.out⟩
       case measure => simp [intOf]; omega
  ·go_wp2_with (go_at_call 166; refine (zCz _ _ _ (by decide)).mono ?_; rintro e w' ⟨rfl, rfl⟩)
   go_ret3
   exact ⟨_, rfl, rfl⟩
theorem zHI (s : ByteArray) (w : World) (hs : s.size <= 140737488355328) : Calls Tryz.prog 108 #[.string s] w fun e w' => e = .returned (.bool (quoS s)) /\ w = w' := by
 have P := zSt (zFW s w)
 cases h0 : zCf s with
 | false =>
  rw [h0] at P
  have E := zSt (zL0 (zFX h0))
  go_enter Tryz.func108, Tryz.ntmps108
  go_wp2_with (go_at_call 144; refine P.out.mono ?_; rintro e w' ⟨rfl, rfl⟩)
  go_ret
  exact ⟨zAD E.out, rfl⟩
 | true =>
  rw [h0] at P
  by_cases hc : ∃ k, Closes s k
  ·obtain ⟨k, hc⟩ := hc
   have E := zSt (zIY (zFY h0) hc)
   have Q := zSt (zJR s k w hc hs)
   by_cases e : k + 1 = s.size
   ·rw [decide_eq_true e] at E
    have e' : ((k : Int) + 1) = (s.size : Int) := by omega
    rw [e'] at Q
    clear hc e e'
    go_enter Tryz.func108, Tryz.ntmps108
    go_wp2_with (first | (go_at_call 144; refine P.out.mono ?_; rintro e w' ⟨rfl, rfl⟩) | (go_at_call 145; refine Q.out.mono ?_; rintro e w' ⟨rfl, rfl⟩))
    go_ret
    exact ⟨zAD E.out, rfl⟩
   ·rw [decide_eq_false e] at E
    have e' : (((k : Int) + 1) == (s.size : Int)) = false := by
     rw [beq_eq_false_iff_ne]
     omega
    clear hc e
    go_enter Tryz.func108, Tryz.ntmps108
    go_wp2_with (first | (go_at_call 144; refine P.out.mono ?_; rintro e w' ⟨rfl, rfl⟩) | (go_at_call 145; refine Q.out.mono ?_; rintro e w' ⟨rfl, rfl⟩))
    go_ret
    exact ⟨zAD E.out, rfl⟩
  ·have E := zSt (zIX hc)
   have Q := zSt (zL1 s w hc hs)
   clear hc
   go_enter Tryz.func108, Tryz.ntmps108
   go_wp2_with (first | (go_at_call 144; refine P.out.mono ?_; rintro e w' ⟨rfl, rfl⟩) | (go_at_call 145; refine Q.out.mono ?_; rintro e w' ⟨x, rfl, rfl⟩))
   go_ret
   exact ⟨zAD E.out, rfl⟩
theorem zA3 (x : Int) (w : World) (h0 : 0 <= x) (h1 : x <= 255) : Calls Tryz.prog 160 #[.int .u8 x] w fun e w' => e = .returned (.bool (insB x)) /\ w = w' := by
 go_enter Tryz.func160, Tryz.ntmps160
 go_wp2
 all_goals
  go_ret
  refine ⟨zAD ?_, rfl⟩
  go_light
  unfold insB
  first | (rw [decide_eq_true_iff]; omega) | (rw [decide_eq_false_iff_not]; omega) | (rw [Bool.eq_iff_iff]; simp only [decide_eq_true_eq, bne_iff_ne, ne_eq]; omega)
def zO0 (n e x : Int) (w : World) (en : Ending) (w' : World) : Prop := en = .returned (.tuple #[.int .i64 n, .agg #[.int .i64 e, .int .i64 x]]) /\ Below w.heap.size w w'
def zJ3 (w : World) (en : Ending) (w' : World) : Prop := ∃ e x : Int, (e == 0) = false /\ zO0 0 e x w en w'
theorem zHg (s : ByteArray) (k : Nat) (w : World) (hc : Closes s k) (hs : s.size <= 140737488355328) :
  Calls Tryz.prog 140 #[.string s, .int .i64 0] w (zO0 ((k : Int) + 1) 0 0 w) := by
 have C := zSt hc
 obtain ⟨h2, h24, _, hk, h39⟩ := hc
 have h39' : ((s[k]'hk).toNat : Int) = 39 := by omega
 have B := zSt (fun o => boxed w o)
 have I39 := zSt (show insB 39 = false by decide)
 clear h39
 go_enter Tryz.func140, Tryz.ntmps140
 go_wp2
 go_loop [6] (fun i => ∃ j : Nat, 1 <= j /\ j <= k /\ i = .int .i64 j) (fun i => k - (intOf i).toNat)
 case atStart => exact ⟨1, by omega, by omega, by go_num⟩
 case round =>
  obtain ⟨j, hj1, hj2, rfl⟩ := hrel
  by_cases e : j = k
  ·subst e
   go_wp2_with (go_at_call 160; refine (zA3 _ _ (by omega) (by omega)).mono ?_; rw [I39.out]; rintro e w' ⟨rfl, rfl⟩)
   exact bodyPost_ret (v := .tuple #[.int .i64 ((j : Int) + 1), .agg #[.int .i64 0, .int .i64 0]]) (by simp [results, Tryz.results140, go_sem]) rfl ⟨rfl, B.out _⟩
  ·have hjs : j < s.size := by omega
   have hi := zSt (zEs C.out hjs hj1 (by omega))
   have hb1 := Ch.zG8 (s[j]'hjs)
   go_wp2_with (go_at_call 160; refine (zA3 _ _ (by omega) (by omega)).mono ?_; rw [hi.out]; rintro e w' ⟨rfl, rfl⟩)
   go_round
   case rel => exact ⟨j + 1, by omega, by omega, by go_num⟩
   case measure => simp [intOf]; omega
theorem zJZ (s : ByteArray) (w : World) (hc : ¬ ∃ k, Closes s k) (hs : s.size <= 140737488355328) (hp : 0 < s.size) :
  Calls Tryz.prog 140 #[.string s, .int .i64 0] w (zJ3 w) := by
 have C := zSt hc
 have B := zSt (fun o => boxed w o)
 have I39 := zSt (show insB 39 = false by decide)
 clear hc
 go_enter Tryz.func140, Tryz.ntmps140
 go_wp2
 go_loop [6] (fun i => ∃ j : Nat, 1 <= j /\ j <= s.size /\ i = .int .i64 j /\ InTo s j) (fun i => s.size - (intOf i).toNat)
 case atStart => exact ⟨1, by omega, by omega, by go_num, zID s⟩
 case round =>
  obtain ⟨j, hj1, hj2, rfl, hI⟩ := hrel
  have I := zSt hI
  clear hI
  by_cases hlt : j < s.size
  ·have hb1 := Ch.zG8 (s[j]'hlt)
   cases hi : insB ((s[j]'hlt).toNat : Int) with
   | true =>
    have I2 := zSt (zGY I.out hlt hi)
    have HI := zSt hi
    clear hi
    go_wp2_with (go_at_call 160; refine (zA3 _ _ (by omega) (by omega)).mono ?_; rw [HI.out]; rintro e w' ⟨rfl, rfl⟩)
    go_round
    case rel => exact ⟨j + 1, by omega, by omega, by go_num, I2.out⟩
    case measure => simp [intOf]; omega
   | false =>
    have HI := zSt hi
    clear hi
    by_cases e3 : ((s[j]'hlt).toNat : Int) = 39
    ·by_cases e4 : j = 1
     ·subst e4
      go_wp2_with (go_at_call 160; refine (zA3 _ _ (by omega) (by omega)).mono ?_; rw [I39.out]; rintro e w' ⟨rfl, rfl⟩)
      exact bodyPost_ret (v := .tuple #[.int .i64 0, .agg #[.int .i64 2, .int .i64 1]]) (by simp [results, Tryz.results140, go_sem]) rfl ⟨2, 1, rfl, rfl, B.out _⟩
     ·by_cases e5 : 24 <= j
      ·have e6 : ¬ (j : Int) = 1 := by omega
       go_wp2_with (go_at_call 160; refine (zA3 _ _ (by omega) (by omega)).mono ?_; rw [I39.out]; rintro e w' ⟨rfl, rfl⟩)
       exact bodyPost_ret (v := .tuple #[.int .i64 0, .agg #[.int .i64 5, .int .i64 0]]) (by simp [results, Tryz.results140, go_sem]) rfl ⟨5, 0, rfl, rfl, B.out _⟩
      ·exact absurd ⟨j, by omega, by omega, I.out, hlt, by omega⟩ C.out
    ·have e7 : (((s[j]'hlt).toNat : Int) != 39) = true := by simpa using e3
     clear e3
     go_wp2_with (go_at_call 160; refine (zA3 _ _ (by omega) (by omega)).mono ?_; rw [HI.out]; rintro e w' ⟨rfl, rfl⟩)
     exact bodyPost_ret (v := .tuple #[.int .i64 0, .agg #[.int .i64 2, .int .i64 j]]) (by simp [results, Tryz.results140, go_sem]) rfl ⟨2, _, rfl, rfl, B.out _⟩
  ·go_wp2_with (go_at_call 160; fail)
   exact bodyPost_ret (v := .tuple #[.int .i64 0, .agg #[.int .i64 4, .int .i64 s.size]]) (by simp [results, Tryz.results140, go_sem]) rfl ⟨4, _, rfl, rfl, B.out _⟩
theorem zI9 {s : ByteArray} (h : ¬ 0 < s.size) : zCf s = false := by
 have : s.data.toList = [] := by
  have : s.data.toList.length = s.size := rfl
  exact List.eq_nil_of_length_eq_zero (by omega)
 unfold zCf
 rw [this]; rfl
theorem zI2 {s : ByteArray} (h : ¬ 0 < s.size) : s.toList = [] := by
 rw [ByteArray.toList_eq]
 have : s.data.toList.length = s.size := rfl
 exact List.eq_nil_of_length_eq_zero (by omega)
theorem zKi {s : ByteArray} (h : 0 < s.size) : ¬ s.toList = [] := by
 rw [ByteArray.toList_eq]
 intro e
 have : s.data.toList.length = s.size := rfl
 rw [e] at this
 simp at this
 omega
theorem zRr (s : ByteArray) (w : World) (hs : s.size <= 140737488355328) : Calls Tryz.prog 101 #[.string s] w (Is (.bool (quoS s)) w) := by
 by_cases hp : 0 < s.size
 ·have hl := zKi hp
  have hl2 : s.toList.isEmpty = false := by simpa using hl
  cases h0 : zCf s with
  | false =>
   have E := zSt (zL0 (zFX h0))
   have e0 : (((s[0]'hp).toNat : Int) != 39) = true := by
    rw [bne_iff_ne]
    intro e
    exact zFX h0 ⟨hp, by omega⟩
   clear h0
   go_enter Tryz.func101, Tryz.ntmps101
   go_wp2
   go_ret
   exact ⟨zAD E.out, .refl _ _⟩
  | true =>
   obtain ⟨_, h39⟩ := zFY h0
   have h39' : (((s[0]'hp).toNat : Int) != 39) = false := by simp [h39]
   by_cases hc : ∃ k, Closes s k
   ·obtain ⟨k, hc⟩ := hc
    have E := zSt (zIY (zFY h0) hc)
    have Q := zSt (zHg s k w hc hs)
    clear h0 h39
    by_cases e : k + 1 = s.size
    ·rw [decide_eq_true e] at E
     have e' : ((k : Int) + 1) = (s.size : Int) := by omega
     rw [e'] at Q
     clear hc e e'
     go_enter Tryz.func101, Tryz.ntmps101
     go_wp2_with (go_at_call 140; refine Q.out.mono ?_; rintro e w' ⟨rfl, hb⟩; have HB := zSt hb; clear hb)
     go_ret
     exact ⟨zAD E.out, step HB.out (boxed _ _)⟩
    ·rw [decide_eq_false e] at E
     have e' : (((k : Int) + 1) == (s.size : Int)) = false := by
      rw [beq_eq_false_iff_ne]
      omega
     clear hc e
     go_enter Tryz.func101, Tryz.ntmps101
     go_wp2_with (go_at_call 140; refine Q.out.mono ?_; rintro e w' ⟨rfl, hb⟩; have HB := zSt hb; clear hb)
     go_ret
     exact ⟨zAD E.out, step HB.out (boxed _ _)⟩
   ·have E := zSt (zIX hc)
    have Q := zSt (zJZ s w hc hs hp)
    clear hc h0 h39
    go_enter Tryz.func101, Tryz.ntmps101
    go_wp2_with (go_at_call 140; refine Q.out.mono ?_; rintro e w' ⟨q, x, hq, rfl, hb⟩; have HB := zSt hb; clear hb)
    go_ret
    exact ⟨zAD E.out, step HB.out (boxed _ _)⟩
 ·have hl := zI2 hp
  have E := zSt (zL0 (zFX (zI9 hp)))
  go_enter Tryz.func101, Tryz.ntmps101
  go_wp2
  go_ret
  exact ⟨zAD E.out, .refl _ _⟩
theorem zGh (s : ByteArray) (w : World) (hs : s.size <= 140737488355328) : Calls Tryz.prog 107 #[.string s] w (Is (.bool (plnS s)) w) := by
 have N := zSt (Ch.zFi s w)
 by_cases h : s.size <= 24
 ·have E := zSt (show plnS s = Ch.namB s.data.toList by simp [plnS, h])
  go_enter Tryz.func107, Tryz.ntmps107
  go_wp2_with (go_at_call 143; refine N.out.mono ?_; rintro e w' ⟨rfl, hb⟩; have HB := zSt hb; clear hb)
  go_ret
  exact ⟨zAD E.out, HB.out⟩
 ·have E := zSt (show plnS s = false by simp [plnS, h])
  go_enter Tryz.func107, Tryz.ntmps107
  go_wp2
  go_ret
  exact ⟨zAD E.out, .refl _ _⟩
theorem zFA (s : ByteArray) (w : World) (hs : s.size <= 140737488355328) : Calls Tryz.prog 100 #[.string s] w (Is (.bool (plnS s)) w) := by
 have N := zSt (Ch.zL8 s w (by unfold maxLen; omega))
 cases hn : Ch.namB s.data.toList with
 | false =>
  rw [hn] at N
  have E := zSt (show plnS s = false by simp [plnS, hn])
  clear hn
  go_enter Tryz.func100, Tryz.ntmps100
  go_wp2_with (go_at_call 139; refine N.out.mono ?_; rintro e w' ⟨rfl, rfl⟩)
  go_ret
  exact ⟨zAD E.out, .refl _ _⟩
 | true =>
  rw [hn] at N
  have E := zSt (show plnS s = decide (s.size <= 24) by simp [plnS, hn])
  clear hn
  go_enter Tryz.func100, Tryz.ntmps100
  go_wp2_with (go_at_call 139; refine N.out.mono ?_; rintro e w' ⟨rfl, rfl⟩)
  go_ret
  refine ⟨zAD ?_, .refl _ _⟩
  rw [E.out, Bool.eq_iff_iff]
  simp only [decide_eq_true_eq]
  omega
def zDV {α : Type} (p : α -> Bool) (L : List α) (k : Nat) : Prop := ∀ j (h : j < L.length), j < k -> p L[j] = true
theorem zAt {α : Type} (p : α -> Bool) (L : List α) : zDV p L 0 := fun _ _ h => absurd h (by omega)
theorem zAs {α : Type} {p : α -> Bool} {L : List α} {k : Nat} (h : zDV p L k) (hk : k < L.length) (e : p L[k] = true) : zDV p L (k + 1) := fun j hj hl => by
 by_cases he : j = k
 ·subst he
  exact e
 ·exact h j hj (by omega)
theorem zB4 {α : Type} {p : α -> Bool} {L : List α} {k : Nat} (h : zDV p L k) (hk : ¬ k < L.length) : L.all p = true := by
 rw [List.all_eq_true]
 intro x hx
 obtain ⟨j, hj, rfl⟩ := List.mem_iff_getElem.1 hx
 exact h j hj (by omega)
theorem zBY {α : Type} {p : α -> Bool} {L : List α} {k : Nat} (hk : k < L.length) (e : p L[k] = false) : L.all p = false := by
 rw [List.all_eq_false]
 exact ⟨_, List.getElem_mem hk, by simp [e]⟩
noncomputable def tokS (s : ByteArray) : Bool := plnS s || quoS s
theorem zKg (G : Gram) : zCT G = (G.terms.all tokS && G.nons.all plnS) := rfl
theorem zFE {L : List ByteArray} {a : Option Addr} {w : World} (h : Sep.Reads a (L.map .string) w) {k : Nat} (hk : k < L.length) : ∃ b o, a = some ⟨b, o, none⟩ /\ w.cell? ⟨b, o + k, none⟩ = some (.string L[k]) :=
 zBT h (by simp) hk (by simp [hk])
theorem zGf (h : Sh) (G : Gram) (w : World) (k : GAt h G w) :
  Calls Tryz.prog 72 #[gv h G] w (Is (.bool (!zCT G)) w) := by
 have t := k.t2
 have n := k.n2
 have TS := zSt k.ok.terms
 have NS := zSt k.ok.nons
 obtain ⟨a1, c1, a2, c2, a3, c3⟩ := h
 have X := zSt (Bx.start ⟨a1, c1, a2, c2, a3, c3⟩ G w 25)
 have HT := zSt (show ∀ w1, Below w.heap.size w w1 -> Sep.Reads a1 (G.terms.map .string) w1 from fun w1 (b : Below w.heap.size w w1) => (k.went b).terms)
 have HN := zSt (show ∀ w1, Below w.heap.size w w1 -> Sep.Reads a2 (G.nons.map .string) w1 from fun w1 (b : Below w.heap.size w w1) => (k.went b).nons)
 clear k
 have E := zSt (zKg G)
 unfold gv
 dsimp only
 go_enter Tryz.func72, Tryz.ntmps72
 go_wp2
 go_loopw [10] (fun i wr => ∃ j : Nat, j <= G.terms.length /\ i = .int .i64 j /\ zDV tokS G.terms j /\ Bx w ⟨a1, c1, a2, c2, a3, c3⟩ G wr) (fun i _ => G.terms.length - (intOf i).toNat)
 case atStart => exact ⟨0, Nat.zero_le _, rfl, zAt _ _, X.out⟩
 case round =>
  clear X
  obtain ⟨j, hj, rfl, hA, hX⟩ := hrel
  have A := zSt hA
  have X := zSt hX
  clear hA hX
  by_cases hlt : j < G.terms.length
  ·obtain ⟨b, o, rfl, hc⟩ := zFE (HT.out _ X.out.below) hlt
   have hs := TS.out _ (List.getElem_mem hlt)
   have AE := zSt (fun he => zAs A.out hlt he)
   have AF := zSt (fun he => zBY (p := tokS) hlt he)
   generalize G.terms[j] = s at hc hs AE AF
   have P := zSt (fun w1 => zGh s w1 hs)
   have Q := zSt (fun w1 => zHI s w1 hs)
   cases hp : plnS s with
   | true =>
    rw [hp] at P
    have A2 := zSt (AE.out (by simp [tokS, hp]))
    clear hp
    go_wp2_with (go_at_call 107; refine (P.out _).mono ?_; rintro e w1 ⟨rfl, hb⟩; have X := zSt (X.out.went hb); clear hb)
    go_roundw
    case rel => exact ⟨j + 1, by omega, by go_num, A2.out, X.out⟩
    case measure => simp [intOf]; omega
   | false =>
    rw [hp] at P
    cases hq : quoS s with
    | true =>
     rw [hq] at Q
     have A2 := zSt (AE.out (by simp [tokS, hq]))
     clear hp hq
     go_wp2_with (first
      | (go_at_call 107; refine (P.out _).mono ?_; rintro e w1 ⟨rfl, hb⟩; have X := zSt (X.out.went hb); clear hb)
      | (go_at_call 108; refine (Q.out _).mono ?_; rintro e w2 ⟨rfl, rfl⟩))
     go_roundw
     case rel => exact ⟨j + 1, by omega, by go_num, A2.out, X.out⟩
     case measure => simp [intOf]; omega
    | false =>
     rw [hq] at Q
     have F := zSt (AF.out (by simp [tokS, hp, hq]))
     clear hp hq
     go_wp2_with (first
      | (go_at_call 107; refine (P.out _).mono ?_; rintro e w1 ⟨rfl, hb⟩; have X := zSt (X.out.went hb); clear hb)
      | (go_at_call 108; refine (Q.out _).mono ?_; rintro e w2 ⟨rfl, rfl⟩))
     go_ret
     exact ⟨zAD (by rw [E.out, F.out]; rfl), X.out.below⟩
  ·have F1 := zSt (zB4 A.out hlt)
   rw [F1.out, Bool.true_and] at E
   obtain ⟨x0, x1, x2, x3⟩ := X.out.box
   clear A F1 HT hj
   go_wp2
   clear x0 x1 x2 x3 hlt
   go_loopw [26] (fun i wr => ∃ j : Nat, j <= G.nons.length /\ i = .int .i64 j /\ zDV plnS G.nons j /\ Bx w ⟨a1, c1, a2, c2, a3, c3⟩ G wr) (fun i _ => G.nons.length - (intOf i).toNat)
   case atStart => exact ⟨0, Nat.zero_le _, rfl, zAt _ _, X.out⟩
   case round =>
    clear X
    obtain ⟨j, hj, rfl, hA, hX⟩ := hrel
    have A := zSt hA
    have X := zSt hX
    clear hA hX
    by_cases hlt : j < G.nons.length
    ·obtain ⟨b, o, rfl, hc⟩ := zFE (HN.out _ X.out.below) hlt
     have hs := NS.out _ (List.getElem_mem hlt)
     have AE := zSt (fun he => zAs A.out hlt he)
     have AF := zSt (fun he => zBY (p := plnS) hlt he)
     generalize G.nons[j] = s at hc hs AE AF
     have P := zSt (fun w1 => zGh s w1 hs)
     cases hp : plnS s with
     | true =>
      rw [hp] at P
      have A2 := zSt (AE.out hp)
      clear hp
      go_wp2_with (go_at_call 107; refine (P.out _).mono ?_; rintro e w1 ⟨rfl, hb⟩; have X := zSt (X.out.went hb); clear hb)
      go_roundw
      case rel => exact ⟨j + 1, by omega, by go_num, A2.out, X.out⟩
      case measure => simp [intOf]; omega
     | false =>
      rw [hp] at P
      have F := zSt (AF.out hp)
      clear hp
      go_wp2_with (go_at_call 107; refine (P.out _).mono ?_; rintro e w1 ⟨rfl, hb⟩; have X := zSt (X.out.went hb); clear hb)
      go_ret
      exact ⟨zAD (by rw [E.out, F.out]; rfl), X.out.below⟩
    ·have F := zSt (zB4 A.out hlt)
     go_wp2
     go_ret
     exact ⟨zAD (by rw [E.out, F.out]; rfl), X.out.below⟩
theorem zL5 (h : Sh) (G : Gram) (w : World) (k : GAt h G w) :
  Calls Tryz.prog 66 #[gv h G] w (Is (.bool (zCT G)) w) := by
 have t := k.t2
 have n := k.n2
 have TS := zSt k.ok.terms
 have NS := zSt k.ok.nons
 obtain ⟨a1, c1, a2, c2, a3, c3⟩ := h
 have X := zSt (Bx.start ⟨a1, c1, a2, c2, a3, c3⟩ G w 25)
 have HT := zSt (show ∀ w1, Below w.heap.size w w1 -> Sep.Reads a1 (G.terms.map .string) w1 from fun w1 (b : Below w.heap.size w w1) => (k.went b).terms)
 have HN := zSt (show ∀ w1, Below w.heap.size w w1 -> Sep.Reads a2 (G.nons.map .string) w1 from fun w1 (b : Below w.heap.size w w1) => (k.went b).nons)
 clear k
 have E := zSt (zKg G)
 unfold gv
 dsimp only
 go_enter Tryz.func66, Tryz.ntmps66
 go_wp2
 go_loopw [3] (fun i wr => ∃ j : Nat, j <= G.terms.length /\ i = .int .i64 j /\ zDV tokS G.terms j /\ Bx w ⟨a1, c1, a2, c2, a3, c3⟩ G wr) (fun i _ => G.terms.length - (intOf i).toNat)
 case atStart => exact ⟨0, Nat.zero_le _, rfl, zAt _ _, X.out⟩
 case round =>
  clear X
  obtain ⟨j, hj, rfl, hA, hX⟩ := hrel
  have A := zSt hA
  have X := zSt hX
  clear hA hX
  obtain ⟨x0, x1, x2, x3⟩ := X.out.box
  by_cases hlt : j < G.terms.length
  ·obtain ⟨b, o, rfl, hc⟩ := zFE (HT.out _ X.out.below) hlt
   have hs := TS.out _ (List.getElem_mem hlt)
   have AE := zSt (fun he => zAs A.out hlt he)
   have AF := zSt (fun he => zBY (p := tokS) hlt he)
   generalize G.terms[j] = s at hc hs AE AF
   have P := zSt (fun w1 => zFA s w1 hs)
   have Q := zSt (fun w1 => zRr s w1 hs)
   cases hp : plnS s with
   | true =>
    rw [hp] at P
    have A2 := zSt (AE.out (by simp [tokS, hp]))
    clear hp
    go_wp2_with (go_at_call 100; refine (P.out _).mono ?_; rintro e w1 ⟨rfl, hb⟩; have X := zSt (X.out.went hb); obtain ⟨x0, x1, x2, x3⟩ := X.out.box; have hc := cell_later hb hc; clear hb)
    go_roundw
    case rel => exact ⟨j + 1, by omega, by go_num, A2.out, X.out⟩
    case measure => simp [intOf]; omega
   | false =>
    rw [hp] at P
    cases hq : quoS s with
    | true =>
     rw [hq] at Q
     have A2 := zSt (AE.out (by simp [tokS, hq]))
     clear hp hq
     go_wp2_with (first
      | (go_at_call 100; refine (P.out _).mono ?_; rintro e w1 ⟨rfl, hb⟩; have X := zSt (X.out.went hb); obtain ⟨x0, x1, x2, x3⟩ := X.out.box; have hc := cell_later hb hc; clear hb)
      | (go_at_call 101; refine (Q.out _).mono ?_; rintro e w2 ⟨rfl, hb⟩; have X := zSt (X.out.went hb); clear hb))
     go_roundw
     case rel => exact ⟨j + 1, by omega, by go_num, A2.out, X.out⟩
     case measure => simp [intOf]; omega
    | false =>
     rw [hq] at Q
     have F := zSt (AF.out (by simp [tokS, hp, hq]))
     clear hp hq
     go_wp2_with (first
      | (go_at_call 100; refine (P.out _).mono ?_; rintro e w1 ⟨rfl, hb⟩; have X := zSt (X.out.went hb); obtain ⟨x0, x1, x2, x3⟩ := X.out.box; have hc := cell_later hb hc; clear hb)
      | (go_at_call 101; refine (Q.out _).mono ?_; rintro e w2 ⟨rfl, hb⟩; have X := zSt (X.out.went hb); clear hb))
     go_ret
     exact ⟨zAD (by rw [E.out, F.out]; rfl), X.out.below⟩
  ·have F1 := zSt (zB4 A.out hlt)
   rw [F1.out, Bool.true_and] at E
   clear A F1 HT hj
   go_wp2
   clear x0 x1 x2 x3 hlt
   go_loopw [4] (fun i wr => ∃ j : Nat, j <= G.nons.length /\ i = .int .i64 j /\ zDV plnS G.nons j /\ Bx w ⟨a1, c1, a2, c2, a3, c3⟩ G wr) (fun i _ => G.nons.length - (intOf i).toNat)
   case atStart => exact ⟨0, Nat.zero_le _, rfl, zAt _ _, X.out⟩
   case round =>
    clear X
    obtain ⟨j, hj, rfl, hA, hX⟩ := hrel
    have A := zSt hA
    have X := zSt hX
    clear hA hX
    obtain ⟨x0, x1, x2, x3⟩ := X.out.box
    by_cases hlt : j < G.nons.length
    ·obtain ⟨b, o, rfl, hc⟩ := zFE (HN.out _ X.out.below) hlt
     have hs := NS.out _ (List.getElem_mem hlt)
     have AE := zSt (fun he => zAs A.out hlt he)
     have AF := zSt (fun he => zBY (p := plnS) hlt he)
     generalize G.nons[j] = s at hc hs AE AF
     have P := zSt (fun w1 => zFA s w1 hs)
     cases hp : plnS s with
     | true =>
      rw [hp] at P
      have A2 := zSt (AE.out hp)
      clear hp
      go_wp2_with (go_at_call 100; refine (P.out _).mono ?_; rintro e w1 ⟨rfl, hb⟩; have X := zSt (X.out.went hb); clear hb)
      go_roundw
      case rel => exact ⟨j + 1, by omega, by go_num, A2.out, X.out⟩
      case measure => simp [intOf]; omega
     | false =>
      rw [hp] at P
      have F := zSt (AF.out hp)
      clear hp
      go_wp2_with (go_at_call 100; refine (P.out _).mono ?_; rintro e w1 ⟨rfl, hb⟩; have X := zSt (X.out.went hb); clear hb)
      go_ret
      exact ⟨zAD (by rw [E.out, F.out]), X.out.below⟩
    ·have F := zSt (zB4 A.out hlt)
     go_wp2
     go_ret
     exact ⟨zAD (by rw [E.out, F.out]), X.out.below⟩
