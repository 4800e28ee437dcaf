/- A part of the proof. -/
import Derived.Test.YtnfbjlainpenaaaGreatPk05
import Derived.Test.YtnfbjlainpenaaaGreatPk03
set_option maxHeartbeats 4000000
set_option linter.unusedVariables false
namespace Go.Proofs.YtnfbjlainpenaaaGreat
open Go.RowKit Go.Maps
namespace Gr
def zBr (s : ByteArray) : Bool := s.data.toList.head? == some 39
theorem zD2 {s : ByteArray} (h : zBr s = true) : ∃ h : 0 < s.size, (s[0]'h).toNat = 39 := by
 rcases s with ⟨⟨l⟩⟩
 cases l with
 | nil => simp [zBr] at h
 | cons b r =>
  simp [zBr] at h
  subst h
  exact ⟨by simp [ByteArray.size], rfl⟩
theorem zD1 {s : ByteArray} (h : zBr s = false) : ¬ ∃ h : 0 < s.size, (s[0]'h).toNat = 39 := by
 rintro ⟨h0, h1⟩
 rcases s with ⟨⟨l⟩⟩
 cases l with
 | nil => simp [ByteArray.size] at h0
 | cons b r =>
  simp [zBr] at h
  exact h (UInt8.toNat_inj.mp h1)
theorem zJ2 (s : ByteArray) : ((s.extract 0 1).toList == [39]) = zBr s := by
 rw [ByteArray.toList_eq, Ch.zJS]
 rcases s with ⟨⟨l⟩⟩
 cases l with
 | nil => rfl
 | cons b r => simp [zBr]
theorem zHB (s : ByteArray) (w : World) : Calls Tryz.prog 115 #[.string s, .string ⟨#[39]⟩] w fun e w' => e = .returned (.bool (zBr s)) /\ w = w' := by
 by_cases h0 : 0 < s.size
 ·have E := zNR (zJ2 s)
  go_enter Tryz.func115, Tryz.ntmps115
  go_wp2
  go_ret
  exact ⟨zAA E.out.symm, rfl⟩
 ·have E := zNR (show zBr s = false by
   have : s.data.toList = [] := by
    have : s.data.toList.length = s.size := rfl
    exact List.eq_nil_of_length_eq_zero (by omega)
   unfold zBr
   rw [this]; rfl)
  go_enter Tryz.func115, Tryz.ntmps115
  go_wp2
  go_ret
  exact ⟨zAA E.out, rfl⟩
theorem zD0 (s : ByteArray) (w : World) : Calls Tryz.prog 102 #[.string s, .string ⟨#[39]⟩] w fun e w' => e = .returned (.bool (zBr s)) /\ w = w' := by
 have H := zNR (zHB s w)
 go_enter Tryz.func102, Tryz.ntmps102
 go_wp2_with (go_at_call 115; refine H.out.mono ?_; rintro e w' ⟨rfl, rfl⟩)
 go_ret
 exact ⟨rfl, rfl⟩
theorem zB5 (e at_ : Int) (w : World) (hne : ¬ e = 0) : Calls Tryz.prog 117 #[.int .i64 e, .int .i64 at_] w fun x w' => x = .returned (.iface 170 (.agg #[.int .i64 e, .int .i64 at_])) /\ w = w' := by
 go_enter Tryz.func117, Tryz.ntmps117
 go_wp2
 go_ret
 exact ⟨rfl, rfl⟩
def zMe (w : World) (e : Ending) (w' : World) : Prop := ∃ x, e = .returned (.tuple #[.int .i64 0, .int .i64 0, .iface 170 x]) /\ w = w'
theorem zC5 (s : ByteArray) (at_ : Int) (w : World) : Calls Tryz.prog 116 #[.string s, .int .i64 at_] w (zMe w) := by
 go_enter Tryz.func116, Tryz.ntmps116
 go_wp2_with (go_at_call 117; refine (zB5 _ _ _ (by decide)).mono ?_; rintro e w' ⟨rfl, rfl⟩)
 go_ret3
 exact ⟨_, rfl, rfl⟩
theorem zHE (s : ByteArray) (k : Nat) (w : World) (hc : Closes s k) (hs : s.size <= 140737488355328) :
  Calls Tryz.prog 103 #[.string s, .int .i64 0] w fun e w' => e = .returned (.tuple #[.int .i64 2, .int .i64 ((k : Int) + 1), .nilIface]) /\ w = w' := by
 have C := zNR hc
 obtain ⟨h2, h24, _, hk, h39⟩ := hc
 have h39' : ((s[k]'hk).toNat : Int) = 39 := by omega
 clear h39
 go_enter Tryz.func103, Tryz.ntmps103
 go_wp2
 go_loop [7] (fun i => ∃ j : Nat, 1 <= j /\ j <= k /\ i = .int .i64 j) (fun i => k - (intOf i).toNat)
 case atStart => exact ⟨1, by omega, by omega, by go_num⟩
 case round =>
  obtain ⟨j, hj1, hj2, rfl⟩ := hrel
  by_cases e : j = k
  ·subst e
   go_wp2
   go_ret3
   exact ⟨rfl, rfl⟩
  ·have hjs : j < s.size := by omega
   have hi := zDM C.out hjs hj1 (by omega)
   simp only [insB, decide_eq_true_eq] at hi
   obtain ⟨i1, i2, i3⟩ := hi
   go_wp2
   go_round
   case rel => exact ⟨j + 1, by omega, by omega, by go_num⟩
   case measure => simp [intOf]; omega
theorem zI3 (s : ByteArray) (w : World) (hc : ¬ ∃ k, Closes s k) (hs : s.size <= 140737488355328) :
  Calls Tryz.prog 103 #[.string s, .int .i64 0] w (zMe w) := by
 have C := zNR hc
 clear hc
 go_enter Tryz.func103, Tryz.ntmps103
 go_wp2
 go_loop [7] (fun i => ∃ j : Nat, 1 <= j /\ j <= 24 /\ i = .int .i64 j /\ InTo s j) (fun i => 25 - (intOf i).toNat)
 case atStart => exact ⟨1, by omega, by omega, by go_num, zFx s⟩
 case round =>
  obtain ⟨j, hj1, hj2, rfl, hI⟩ := hrel
  have I := zNR hI
  clear hI
  by_cases hlt : j < s.size
  ·by_cases e1 : ((s[j]'hlt).toNat : Int) < 33
   ·have e39 : ¬ ((s[j]'hlt).toNat : Int) = 39 := by omega
    go_wp2_with (go_at_call 116; refine (zC5 _ _ _).mono ?_; rintro e w' ⟨x, rfl, rfl⟩)
    go_ret3
    exact ⟨_, rfl, rfl⟩
   ·by_cases e2 : 126 < ((s[j]'hlt).toNat : Int)
    ·have e39 : ¬ ((s[j]'hlt).toNat : Int) = 39 := by omega
     go_wp2_with (go_at_call 116; refine (zC5 _ _ _).mono ?_; rintro e w' ⟨x, rfl, rfl⟩)
     go_ret3
     exact ⟨_, rfl, rfl⟩
    ·by_cases e3 : ((s[j]'hlt).toNat : Int) = 39
     ·by_cases e4 : j = 1
      ·subst e4
       go_wp2_with (go_at_call 116; refine (zC5 _ _ _).mono ?_; rintro e w' ⟨x, rfl, rfl⟩)
       go_ret3
       exact ⟨_, rfl, rfl⟩
      ·by_cases e5 : 24 <= j
       ·clear e1 e2
        have e6 : ¬ (j : Int) = 1 := by omega
        go_wp2_with (go_at_call 117; refine (zB5 _ _ _ (by decide)).mono ?_; rintro e w' ⟨rfl, rfl⟩)
        go_ret3
        exact ⟨_, rfl, rfl⟩
       ·exact absurd ⟨j, by omega, by omega, I.out, hlt, by omega⟩ C.out
     ·by_cases e5 : 24 <= j
      ·go_wp2_with (go_at_call 117; refine (zB5 _ _ _ (by decide)).mono ?_; rintro e w' ⟨rfl, rfl⟩)
       go_ret3
       exact ⟨_, rfl, rfl⟩
      ·have I2 := zNR (zEd I.out hlt (by simp only [insB, decide_eq_true_eq]; omega))
       go_wp2
       go_round
       case rel => exact ⟨j + 1, by omega, by omega, by go_num, I2.out⟩
       case measure => simp [intOf]; omega
  ·go_wp2_with (go_at_call 117; refine (zB5 _ _ _ (by decide)).mono ?_; rintro e w' ⟨rfl, rfl⟩)
   go_ret3
   exact ⟨_, rfl, rfl⟩
theorem zFG (s : ByteArray) (w : World) (hs : s.size <= 140737488355328) : Calls Tryz.prog 89 #[.string s] w fun e w' => e = .returned (.bool (quoS s)) /\ w = w' := by
 have P := zNR (zD0 s w)
 cases h0 : zBr s with
 | false =>
  rw [h0] at P
  have E := zNR (zI2 (zD1 h0))
  go_enter Tryz.func89, Tryz.ntmps89
  go_wp2_with (go_at_call 102; refine P.out.mono ?_; rintro e w' ⟨rfl, rfl⟩)
  go_ret
  exact ⟨zAA E.out, rfl⟩
 | true =>
  rw [h0] at P
  by_cases hc : ∃ k, Closes s k
  ·obtain ⟨k, hc⟩ := hc
   have E := zNR (zGN (zD2 h0) hc)
   have Q := zNR (zHE s k w hc hs)
   by_cases e : k + 1 = s.size
   ·rw [decide_eq_true e] at E
    have e' : ((k : Int) + 1) = (s.size : Int) := by omega
    rw [e'] at Q
    clear hc e e'
    go_enter Tryz.func89, Tryz.ntmps89
    go_wp2_with (first | (go_at_call 102; refine P.out.mono ?_; rintro e w' ⟨rfl, rfl⟩) | (go_at_call 103; refine Q.out.mono ?_; rintro e w' ⟨rfl, rfl⟩))
    go_ret
    exact ⟨zAA E.out, rfl⟩
   ·rw [decide_eq_false e] at E
    have e' : (((k : Int) + 1) == (s.size : Int)) = false := by
     rw [beq_eq_false_iff_ne]
     omega
    clear hc e
    go_enter Tryz.func89, Tryz.ntmps89
    go_wp2_with (first | (go_at_call 102; refine P.out.mono ?_; rintro e w' ⟨rfl, rfl⟩) | (go_at_call 103; refine Q.out.mono ?_; rintro e w' ⟨rfl, rfl⟩))
    go_ret
    exact ⟨zAA E.out, rfl⟩
  ·have E := zNR (zGM hc)
   have Q := zNR (zI3 s w hc hs)
   clear hc
   go_enter Tryz.func89, Tryz.ntmps89
   go_wp2_with (first | (go_at_call 102; refine P.out.mono ?_; rintro e w' ⟨rfl, rfl⟩) | (go_at_call 103; refine Q.out.mono ?_; rintro e w' ⟨x, rfl, rfl⟩))
   go_ret
   exact ⟨zAA E.out, rfl⟩
theorem zAo (x : Int) (w : World) (h0 : 0 <= x) (h1 : x <= 255) : Calls Tryz.prog 111 #[.int .u8 x] w fun e w' => e = .returned (.bool (insB x)) /\ w = w' := by
 go_enter Tryz.func111, Tryz.ntmps111
 go_wp2
 all_goals
  go_ret
  refine ⟨zAA ?_, rfl⟩
  go_light
  unfold insB
  first | (rw [decide_eq_true_iff]; omega) | (rw [decide_eq_false_iff_not]; omega) | (rw [Bool.eq_iff_iff]; simp only [decide_eq_true_eq, bne_iff_ne, ne_eq]; omega)
def zK6 (n e x : Int) (w : World) (en : Ending) (w' : World) : Prop := en = .returned (.tuple #[.int .i64 n, .agg #[.int .i64 e, .int .i64 x]]) /\ Below w.heap.size w w'
def zHa (w : World) (en : Ending) (w' : World) : Prop := ∃ e x : Int, (e == 0) = false /\ zK6 0 e x w en w'
theorem zFd (s : ByteArray) (k : Nat) (w : World) (hc : Closes s k) (hs : s.size <= 140737488355328) :
  Calls Tryz.prog 98 #[.string s, .int .i64 0] w (zK6 ((k : Int) + 1) 0 0 w) := by
 have C := zNR hc
 obtain ⟨h2, h24, _, hk, h39⟩ := hc
 have h39' : ((s[k]'hk).toNat : Int) = 39 := by omega
 have B := zNR (fun o => boxed w o)
 have I39 := zNR (show insB 39 = false by decide)
 clear h39
 go_enter Tryz.func98, Tryz.ntmps98
 go_wp2
 go_loop [6] (fun i => ∃ j : Nat, 1 <= j /\ j <= k /\ i = .int .i64 j) (fun i => k - (intOf i).toNat)
 case atStart => exact ⟨1, by omega, by omega, by go_num⟩
 case round =>
  obtain ⟨j, hj1, hj2, rfl⟩ := hrel
  by_cases e : j = k
  ·subst e
   go_wp2_with (go_at_call 111; refine (zAo _ _ (by omega) (by omega)).mono ?_; rw [I39.out]; rintro e w' ⟨rfl, rfl⟩)
   exact bodyPost_ret (v := .tuple #[.int .i64 ((j : Int) + 1), .agg #[.int .i64 0, .int .i64 0]]) (by simp [results, Tryz.results98, go_sem]) rfl ⟨rfl, B.out _⟩
  ·have hjs : j < s.size := by omega
   have hi := zNR (zDM C.out hjs hj1 (by omega))
   have hb1 := Ch.zFA (s[j]'hjs)
   go_wp2_with (go_at_call 111; refine (zAo _ _ (by omega) (by omega)).mono ?_; rw [hi.out]; rintro e w' ⟨rfl, rfl⟩)
   go_round
   case rel => exact ⟨j + 1, by omega, by omega, by go_num⟩
   case measure => simp [intOf]; omega
theorem zHL (s : ByteArray) (w : World) (hc : ¬ ∃ k, Closes s k) (hs : s.size <= 140737488355328) (hp : 0 < s.size) :
  Calls Tryz.prog 98 #[.string s, .int .i64 0] w (zHa w) := by
 have C := zNR hc
 have B := zNR (fun o => boxed w o)
 have I39 := zNR (show insB 39 = false by decide)
 clear hc
 go_enter Tryz.func98, Tryz.ntmps98
 go_wp2
 go_loop [6] (fun i => ∃ j : Nat, 1 <= j /\ j <= s.size /\ i = .int .i64 j /\ InTo s j) (fun i => s.size - (intOf i).toNat)
 case atStart => exact ⟨1, by omega, by omega, by go_num, zFx s⟩
 case round =>
  obtain ⟨j, hj1, hj2, rfl, hI⟩ := hrel
  have I := zNR hI
  clear hI
  by_cases hlt : j < s.size
  ·have hb1 := Ch.zFA (s[j]'hlt)
   cases hi : insB ((s[j]'hlt).toNat : Int) with
   | true =>
    have I2 := zNR (zEd I.out hlt hi)
    have HI := zNR hi
    clear hi
    go_wp2_with (go_at_call 111; refine (zAo _ _ (by omega) (by omega)).mono ?_; rw [HI.out]; rintro e w' ⟨rfl, rfl⟩)
    go_round
    case rel => exact ⟨j + 1, by omega, by omega, by go_num, I2.out⟩
    case measure => simp [intOf]; omega
   | false =>
    have HI := zNR hi
    clear hi
    by_cases e3 : ((s[j]'hlt).toNat : Int) = 39
    ·by_cases e4 : j = 1
     ·subst e4
      go_wp2_with (go_at_call 111; refine (zAo _ _ (by omega) (by omega)).mono ?_; rw [I39.out]; rintro e w' ⟨rfl, rfl⟩)
      exact bodyPost_ret (v := .tuple #[.int .i64 0, .agg #[.int .i64 2, .int .i64 1]]) (by simp [results, Tryz.results98, go_sem]) rfl ⟨2, 1, rfl, rfl, B.out _⟩
     ·by_cases e5 : 24 <= j
      ·have e6 : ¬ (j : Int) = 1 := by omega
       go_wp2_with (go_at_call 111; refine (zAo _ _ (by omega) (by omega)).mono ?_; rw [I39.out]; rintro e w' ⟨rfl, rfl⟩)
       exact bodyPost_ret (v := .tuple #[.int .i64 0, .agg #[.int .i64 5, .int .i64 0]]) (by simp [results, Tryz.results98, go_sem]) rfl ⟨5, 0, rfl, rfl, B.out _⟩
      ·exact absurd ⟨j, by omega, by omega, I.out, hlt, by omega⟩ C.out
    ·have e7 : (((s[j]'hlt).toNat : Int) != 39) = true := by simpa using e3
     clear e3
     go_wp2_with (go_at_call 111; refine (zAo _ _ (by omega) (by omega)).mono ?_; rw [HI.out]; rintro e w' ⟨rfl, rfl⟩)
     exact bodyPost_ret (v := .tuple #[.int .i64 0, .agg #[.int .i64 2, .int .i64 j]]) (by simp [results, Tryz.results98, go_sem]) rfl ⟨2, _, rfl, rfl, B.out _⟩
  ·go_wp2_with (go_at_call 111; fail)
   exact bodyPost_ret (v := .tuple #[.int .i64 0, .agg #[.int .i64 4, .int .i64 s.size]]) (by simp [results, Tryz.results98, go_sem]) rfl ⟨4, _, rfl, rfl, B.out _⟩
theorem zGw {s : ByteArray} (h : ¬ 0 < s.size) : zBr s = false := by
 have : s.data.toList = [] := by
  have : s.data.toList.length = s.size := rfl
  exact List.eq_nil_of_length_eq_zero (by omega)
 unfold zBr
 rw [this]; rfl
theorem zGs {s : ByteArray} (h : ¬ 0 < s.size) : s.toList = [] := by
 rw [ByteArray.toList_eq]
 have : s.data.toList.length = s.size := rfl
 exact List.eq_nil_of_length_eq_zero (by omega)
theorem zH9 {s : ByteArray} (h : 0 < s.size) : ¬ s.toList = [] := by
 rw [ByteArray.toList_eq]
 intro e
 have : s.data.toList.length = s.size := rfl
 rw [e] at this
 simp at this
 omega
theorem zMz (s : ByteArray) (w : World) (hs : s.size <= 140737488355328) : Calls Tryz.prog 79 #[.string s] w (Is (.bool (quoS s)) w) := by
 by_cases hp : 0 < s.size
 ·have hl := zH9 hp
  have hl2 : s.toList.isEmpty = false := by simpa using hl
  cases h0 : zBr s with
  | false =>
   have E := zNR (zI2 (zD1 h0))
   have e0 : (((s[0]'hp).toNat : Int) != 39) = true := by
    rw [bne_iff_ne]
    intro e
    exact zD1 h0 ⟨hp, by omega⟩
   clear h0
   go_enter Tryz.func79, Tryz.ntmps79
   go_wp2
   go_ret
   exact ⟨zAA E.out, .refl _ _⟩
  | true =>
   obtain ⟨_, h39⟩ := zD2 h0
   have h39' : (((s[0]'hp).toNat : Int) != 39) = false := by simp [h39]
   by_cases hc : ∃ k, Closes s k
   ·obtain ⟨k, hc⟩ := hc
    have E := zNR (zGN (zD2 h0) hc)
    have Q := zNR (zFd s k w hc hs)
    clear h0 h39
    by_cases e : k + 1 = s.size
    ·rw [decide_eq_true e] at E
     have e' : ((k : Int) + 1) = (s.size : Int) := by omega
     rw [e'] at Q
     clear hc e e'
     go_enter Tryz.func79, Tryz.ntmps79
     go_wp2_with (go_at_call 98; refine Q.out.mono ?_; rintro e w' ⟨rfl, hb⟩; have HB := zNR hb; clear hb)
     go_ret
     exact ⟨zAA E.out, step HB.out (boxed _ _)⟩
    ·rw [decide_eq_false e] at E
     have e' : (((k : Int) + 1) == (s.size : Int)) = false := by
      rw [beq_eq_false_iff_ne]
      omega
     clear hc e
     go_enter Tryz.func79, Tryz.ntmps79
     go_wp2_with (go_at_call 98; refine Q.out.mono ?_; rintro e w' ⟨rfl, hb⟩; have HB := zNR hb; clear hb)
     go_ret
     exact ⟨zAA E.out, step HB.out (boxed _ _)⟩
   ·have E := zNR (zGM hc)
    have Q := zNR (zHL s w hc hs hp)
    clear hc h0 h39
    go_enter Tryz.func79, Tryz.ntmps79
    go_wp2_with (go_at_call 98; refine Q.out.mono ?_; rintro e w' ⟨q, x, hq, rfl, hb⟩; have HB := zNR hb; clear hb)
    go_ret
    exact ⟨zAA E.out, step HB.out (boxed _ _)⟩
 ·have hl := zGs hp
  have E := zNR (zI2 (zD1 (zGw hp)))
  go_enter Tryz.func79, Tryz.ntmps79
  go_wp2
  go_ret
  exact ⟨zAA E.out, .refl _ _⟩
theorem zEo (s : ByteArray) (w : World) (hs : s.size <= 140737488355328) : Calls Tryz.prog 88 #[.string s] w (Is (.bool (plnS s)) w) := by
 have N := zNR (Ch.zEA s w)
 by_cases h : s.size <= 24
 ·have E := zNR (show plnS s = Ch.namB s.data.toList by simp [plnS, h])
  go_enter Tryz.func88, Tryz.ntmps88
  go_wp2_with (go_at_call 101; refine N.out.mono ?_; rintro e w' ⟨rfl, hb⟩; have HB := zNR hb; clear hb)
  go_ret
  exact ⟨zAA E.out, HB.out⟩
 ·have E := zNR (show plnS s = false by simp [plnS, h])
  go_enter Tryz.func88, Tryz.ntmps88
  go_wp2
  go_ret
  exact ⟨zAA E.out, .refl _ _⟩
theorem zDf (s : ByteArray) (w : World) (hs : s.size <= 140737488355328) : Calls Tryz.prog 78 #[.string s] w (Is (.bool (plnS s)) w) := by
 have N := zNR (Ch.zI9 s w (by unfold maxLen; omega))
 cases hn : Ch.namB s.data.toList with
 | false =>
  rw [hn] at N
  have E := zNR (show plnS s = false by simp [plnS, hn])
  clear hn
  go_enter Tryz.func78, Tryz.ntmps78
  go_wp2_with (go_at_call 97; refine N.out.mono ?_; rintro e w' ⟨rfl, rfl⟩)
  go_ret
  exact ⟨zAA E.out, .refl _ _⟩
 | true =>
  rw [hn] at N
  have E := zNR (show plnS s = decide (s.size <= 24) by simp [plnS, hn])
  clear hn
  go_enter Tryz.func78, Tryz.ntmps78
  go_wp2_with (go_at_call 97; refine N.out.mono ?_; rintro e w' ⟨rfl, rfl⟩)
  go_ret
  refine ⟨zAA ?_, .refl _ _⟩
  rw [E.out, Bool.eq_iff_iff]
  simp only [decide_eq_true_eq]
  omega
