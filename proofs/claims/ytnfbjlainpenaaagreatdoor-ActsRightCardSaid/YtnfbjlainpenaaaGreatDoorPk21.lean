/- A part of the proof. -/
import Derived.Test.YtnfbjlainpenaaaGreatDoorPk20
import Derived.Test.YtnfbjlainpenaaaGreatDoorPk18
set_option maxHeartbeats 4000000
set_option linter.unusedVariables false
namespace Go.Proofs.YtnfbjlainpenaaaGreatDoor
open Go.RowKit Go.Maps
namespace Gr
def zDV (s : ByteArray) : Bool := s.data.toList.head? == some 39
theorem zND {s : ByteArray} (h : zDV s = true) : ∃ h : 0 < s.size, (s[0]'h).toNat = 39 := by
 rcases s with ⟨⟨l⟩⟩
 cases l with
 | nil => simp [zDV] at h
 | cons b r =>
  simp [zDV] at h
  subst h
  exact ⟨by simp [ByteArray.size], rfl⟩
theorem zP2 {s : ByteArray} (h : zDV s = false) : ¬ ∃ h : 0 < s.size, (s[0]'h).toNat = 39 := by
 rintro ⟨h0, h1⟩
 rcases s with ⟨⟨l⟩⟩
 cases l with
 | nil => simp [ByteArray.size] at h0
 | cons b r =>
  simp [zDV] at h
  exact h (UInt8.toNat_inj.mp h1)
theorem zNC (s : ByteArray) : ((s.extract 0 1).toList == [39]) = zDV s := by
 rw [ByteArray.toList_eq, Ch.zMB]
 rcases s with ⟨⟨l⟩⟩
 cases l with
 | nil => rfl
 | cons b r => simp [zDV]
theorem zJC (s : ByteArray) (w : World) : Calls Tryz.prog 164 #[.string s, .string ⟨#[39]⟩] w fun e w' => e = .returned (.bool (zDV s)) /\ w = w' := by
 by_cases h0 : 0 < s.size
 ·have E := zSg (zNC s)
  go_enter Tryz.func164, Tryz.ntmps164
  go_wp2
  go_ret
  exact ⟨zAK E.out.symm, rfl⟩
 ·have E := zSg (show zDV s = false by
   have : s.data.toList = [] := by
    have : s.data.toList.length = s.size := rfl
    exact List.eq_nil_of_length_eq_zero (by omega)
   unfold zDV
   rw [this]; rfl)
  go_enter Tryz.func164, Tryz.ntmps164
  go_wp2
  go_ret
  exact ⟨zAK E.out, rfl⟩
theorem zFG (s : ByteArray) (w : World) : Calls Tryz.prog 135 #[.string s, .string ⟨#[39]⟩] w fun e w' => e = .returned (.bool (zDV s)) /\ w = w' := by
 have H := zSg (zJC s w)
 go_enter Tryz.func135, Tryz.ntmps135
 go_wp2_with (go_at_call 164; refine H.out.mono ?_; rintro e w' ⟨rfl, rfl⟩)
 go_ret
 exact ⟨rfl, rfl⟩
theorem zCv (e at_ : Int) (w : World) (hne : ¬ e = 0) : Calls Tryz.prog 166 #[.int .i64 e, .int .i64 at_] w fun x w' => x = .returned (.iface 262 (.agg #[.int .i64 e, .int .i64 at_])) /\ w = w' := by
 go_enter Tryz.func166, Tryz.ntmps166
 go_wp2
 go_ret
 exact ⟨rfl, rfl⟩
def zQ7 (w : World) (e : Ending) (w' : World) : Prop := ∃ x, e = .returned (.tuple #[.int .i64 0, .int .i64 0, .iface 262 x]) /\ w = w'
theorem zEQ (s : ByteArray) (at_ : Int) (w : World) : Calls Tryz.prog 165 #[.string s, .int .i64 at_] w (zQ7 w) := by
 go_enter Tryz.func165, Tryz.ntmps165
 go_wp2_with (go_at_call 166; refine (zCv _ _ _ (by decide)).mono ?_; rintro e w' ⟨rfl, rfl⟩)
 go_ret3
 exact ⟨_, rfl, rfl⟩
theorem zJD (s : ByteArray) (k : Nat) (w : World) (hc : Closes s k) (hs : s.size <= 140737488355328) :
  Calls Tryz.prog 136 #[.string s, .int .i64 0] w fun e w' => e = .returned (.tuple #[.int .i64 2, .int .i64 ((k : Int) + 1), .nilIface]) /\ w = w' := by
 have C := zSg hc
 obtain ⟨h2, h24, _, hk, h39⟩ := hc
 have h39' : ((s[k]'hk).toNat : Int) = 39 := by omega
 clear h39
 go_enter Tryz.func136, Tryz.ntmps136
 go_wp2
 go_loop [7] (fun i => ∃ j : Nat, 1 <= j /\ j <= k /\ i = .int .i64 j) (fun i => k - (intOf i).toNat)
 case atStart => exact ⟨1, by omega, by omega, by go_num⟩
 case round =>
  obtain ⟨j, hj1, hj2, rfl⟩ := hrel
  by_cases e : j = k
  ·subst e
   go_wp2
   go_ret3
   exact ⟨rfl, rfl⟩
  ·have hjs : j < s.size := by omega
   have hi := zIl C.out hjs hj1 (by omega)
   simp only [insB, decide_eq_true_eq] at hi
   obtain ⟨i1, i2, i3⟩ := hi
   go_wp2
   go_round
   case rel => exact ⟨j + 1, by omega, by omega, by go_num⟩
   case measure => simp [intOf]; omega
theorem zLf (s : ByteArray) (w : World) (hc : ¬ ∃ k, Closes s k) (hs : s.size <= 140737488355328) :
  Calls Tryz.prog 136 #[.string s, .int .i64 0] w (zQ7 w) := by
 have C := zSg hc
 clear hc
 go_enter Tryz.func136, Tryz.ntmps136
 go_wp2
 go_loop [7] (fun i => ∃ j : Nat, 1 <= j /\ j <= 24 /\ i = .int .i64 j /\ InTo s j) (fun i => 25 - (intOf i).toNat)
 case atStart => exact ⟨1, by omega, by omega, by go_num, zNH s⟩
 case round =>
  obtain ⟨j, hj1, hj2, rfl, hI⟩ := hrel
  have I := zSg hI
  clear hI
  by_cases hlt : j < s.size
  ·by_cases e1 : ((s[j]'hlt).toNat : Int) < 33
   ·have e39 : ¬ ((s[j]'hlt).toNat : Int) = 39 := by omega
    go_wp2_with (go_at_call 165; refine (zEQ _ _ _).mono ?_; rintro e w' ⟨x, rfl, rfl⟩)
    go_ret3
    exact ⟨_, rfl, rfl⟩
   ·by_cases e2 : 126 < ((s[j]'hlt).toNat : Int)
    ·have e39 : ¬ ((s[j]'hlt).toNat : Int) = 39 := by omega
     go_wp2_with (go_at_call 165; refine (zEQ _ _ _).mono ?_; rintro e w' ⟨x, rfl, rfl⟩)
     go_ret3
     exact ⟨_, rfl, rfl⟩
    ·by_cases e3 : ((s[j]'hlt).toNat : Int) = 39
     ·by_cases e4 : j = 1
      ·subst e4
       go_wp2_with (go_at_call 165; refine (zEQ _ _ _).mono ?_; rintro e w' ⟨x, rfl, rfl⟩)
       go_ret3
       exact ⟨_, rfl, rfl⟩
      ·by_cases e5 : 24 <= j
       ·clear e1 e2
        have e6 : ¬ (j : Int) = 1 := by omega
        go_wp2_with (go_at_call 166; refine (zCv _ _ _ (by decide)).mono ?_; rintro e w' ⟨rfl, rfl⟩)
        go_ret3
        exact ⟨_, rfl, rfl⟩
       ·exact absurd ⟨j, by omega, by omega, I.out, hlt, by omega⟩ C.out
     ·by_cases e5 : 24 <= j
      ·go_wp2_with (go_at_call 166; refine (zCv _ _ _ (by decide)).mono ?_; rintro e w' ⟨rfl, rfl⟩)
       go_ret3
       exact ⟨_, rfl, rfl⟩
      ·have I2 := zSg (zKh I.out hlt (by simp only [insB, decide_eq_true_eq]; omega))
       go_wp2
       go_round
       case rel => exact ⟨j + 1, by omega, by omega, by go_num, I2.out⟩
       case measure => simp [intOf]; omega
  ·go_wp2_with (go_at_call 166; refine (zCv _ _ _ (by decide)).mono ?_; rintro e w' ⟨rfl, rfl⟩)
   go_ret3
   exact ⟨_, rfl, rfl⟩
theorem zG0 (s : ByteArray) (w : World) (hs : s.size <= 140737488355328) : Calls Tryz.prog 101 #[.string s] w fun e w' => e = .returned (.bool (quoS s)) /\ w = w' := by
 have P := zSg (zFG s w)
 cases h0 : zDV s with
 | false =>
  rw [h0] at P
  have E := zSg (zRk (zP2 h0))
  go_enter Tryz.func101, Tryz.ntmps101
  go_wp2_with (go_at_call 135; refine P.out.mono ?_; rintro e w' ⟨rfl, rfl⟩)
  go_ret
  exact ⟨zAK E.out, rfl⟩
 | true =>
  rw [h0] at P
  by_cases hc : ∃ k, Closes s k
  ·obtain ⟨k, hc⟩ := hc
   have E := zSg (zOE (zND h0) hc)
   have Q := zSg (zJD s k w hc hs)
   by_cases e : k + 1 = s.size
   ·rw [decide_eq_true e] at E
    have e' : ((k : Int) + 1) = (s.size : Int) := by omega
    rw [e'] at Q
    clear hc e e'
    go_enter Tryz.func101, Tryz.ntmps101
    go_wp2_with (first | (go_at_call 135; refine P.out.mono ?_; rintro e w' ⟨rfl, rfl⟩) | (go_at_call 136; refine Q.out.mono ?_; rintro e w' ⟨rfl, rfl⟩))
    go_ret
    exact ⟨zAK E.out, rfl⟩
   ·rw [decide_eq_false e] at E
    have e' : (((k : Int) + 1) == (s.size : Int)) = false := by
     rw [beq_eq_false_iff_ne]
     omega
    clear hc e
    go_enter Tryz.func101, Tryz.ntmps101
    go_wp2_with (first | (go_at_call 135; refine P.out.mono ?_; rintro e w' ⟨rfl, rfl⟩) | (go_at_call 136; refine Q.out.mono ?_; rintro e w' ⟨rfl, rfl⟩))
    go_ret
    exact ⟨zAK E.out, rfl⟩
  ·have E := zSg (zOD hc)
   have Q := zSg (zLf s w hc hs)
   clear hc
   go_enter Tryz.func101, Tryz.ntmps101
   go_wp2_with (first | (go_at_call 135; refine P.out.mono ?_; rintro e w' ⟨rfl, rfl⟩) | (go_at_call 136; refine Q.out.mono ?_; rintro e w' ⟨x, rfl, rfl⟩))
   go_ret
   exact ⟨zAK E.out, rfl⟩
theorem zGI (s : ByteArray) (w : World) (hs : s.size <= 140737488355328) : Calls Tryz.prog 100 #[.string s] w (Is (.bool (plnS s)) w) := by
 have N := zSg (Ch.zFQ s w)
 by_cases h : s.size <= 24
 ·have E := zSg (show plnS s = Ch.namB s.data.toList by simp [plnS, h])
  go_enter Tryz.func100, Tryz.ntmps100
  go_wp2_with (go_at_call 134; refine N.out.mono ?_; rintro e w' ⟨rfl, hb⟩; have HB := zSg hb; clear hb)
  go_ret
  exact ⟨zAK E.out, HB.out⟩
 ·have E := zSg (show plnS s = false by simp [plnS, h])
  go_enter Tryz.func100, Tryz.ntmps100
  go_wp2
  go_ret
  exact ⟨zAK E.out, .refl _ _⟩
def zFd {α : Type} (p : α -> Bool) (L : List α) (k : Nat) : Prop := ∀ j (h : j < L.length), j < k -> p L[j] = true
theorem zCJ {α : Type} (p : α -> Bool) (L : List α) : zFd p L 0 := fun _ _ h => absurd h (by omega)
theorem zCI {α : Type} {p : α -> Bool} {L : List α} {k : Nat} (h : zFd p L k) (hk : k < L.length) (e : p L[k] = true) : zFd p L (k + 1) := fun j hj hl => by
 by_cases he : j = k
 ·subst he
  exact e
 ·exact h j hj (by omega)
theorem zE4 {α : Type} {p : α -> Bool} {L : List α} {k : Nat} (h : zFd p L k) (hk : ¬ k < L.length) : L.all p = true := by
 rw [List.all_eq_true]
 intro x hx
 obtain ⟨j, hj, rfl⟩ := List.mem_iff_getElem.1 hx
 exact h j hj (by omega)
theorem zDa {α : Type} {p : α -> Bool} {L : List α} {k : Nat} (hk : k < L.length) (e : p L[k] = false) : L.all p = false := by
 rw [List.all_eq_false]
 exact ⟨_, List.getElem_mem hk, by simp [e]⟩
noncomputable def tokS (s : ByteArray) : Bool := plnS s || quoS s
theorem zPl (G : Gram) : zB2 G = (G.terms.all tokS && G.nons.all plnS) := rfl
theorem zIJ {L : List ByteArray} {a : Option Addr} {w : World} (h : Sep.Reads a (L.map .string) w) {k : Nat} (hk : k < L.length) : ∃ b o, a = some ⟨b, o, none⟩ /\ w.cell? ⟨b, o + k, none⟩ = some (.string L[k]) :=
 zCx h (by simp) hk (by simp [hk])
theorem zGG (h : Sh) (G : Gram) (w : World) (k : GAt h G w) :
  Calls Tryz.prog 61 #[gv h G] w (Is (.bool (!zB2 G)) w) := by
 have t := k.t2
 have n := k.n2
 have TS := zSg k.ok.terms
 have NS := zSg k.ok.nons
 obtain ⟨a1, c1, a2, c2, a3, c3⟩ := h
 have X := zSg (Bx.start ⟨a1, c1, a2, c2, a3, c3⟩ G w 25)
 have HT := zSg (show ∀ w1, Below w.heap.size w w1 -> Sep.Reads a1 (G.terms.map .string) w1 from fun w1 (b : Below w.heap.size w w1) => (k.went b).terms)
 have HN := zSg (show ∀ w1, Below w.heap.size w w1 -> Sep.Reads a2 (G.nons.map .string) w1 from fun w1 (b : Below w.heap.size w w1) => (k.went b).nons)
 clear k
 have E := zSg (zPl G)
 unfold gv
 dsimp only
 go_enter Tryz.func61, Tryz.ntmps61
 go_wp2
 go_loopw [10] (fun i wr => ∃ j : Nat, j <= G.terms.length /\ i = .int .i64 j /\ zFd tokS G.terms j /\ Bx w ⟨a1, c1, a2, c2, a3, c3⟩ G wr) (fun i _ => G.terms.length - (intOf i).toNat)
 case atStart => exact ⟨0, Nat.zero_le _, rfl, zCJ _ _, X.out⟩
 case round =>
  clear X
  obtain ⟨j, hj, rfl, hA, hX⟩ := hrel
  have A := zSg hA
  have X := zSg hX
  clear hA hX
  by_cases hlt : j < G.terms.length
  ·obtain ⟨b, o, rfl, hc⟩ := zIJ (HT.out _ X.out.below) hlt
   have hs := TS.out _ (List.getElem_mem hlt)
   have AE := zSg (fun he => zCI A.out hlt he)
   have AF := zSg (fun he => zDa (p := tokS) hlt he)
   generalize G.terms[j] = s at hc hs AE AF
   have P := zSg (fun w1 => zGI s w1 hs)
   have Q := zSg (fun w1 => zG0 s w1 hs)
   cases hp : plnS s with
   | true =>
    rw [hp] at P
    have A2 := zSg (AE.out (by simp [tokS, hp]))
    clear hp
    go_wp2_with (go_at_call 100; refine (P.out _).mono ?_; rintro e w1 ⟨rfl, hb⟩; have X := zSg (X.out.went hb); clear hb)
    go_roundw
    case rel => exact ⟨j + 1, by omega, by go_num, A2.out, X.out⟩
    case measure => simp [intOf]; omega
   | false =>
    rw [hp] at P
    cases hq : quoS s with
    | true =>
     rw [hq] at Q
     have A2 := zSg (AE.out (by simp [tokS, hq]))
     clear hp hq
     go_wp2_with (first
      | (go_at_call 100; refine (P.out _).mono ?_; rintro e w1 ⟨rfl, hb⟩; have X := zSg (X.out.went hb); clear hb)
      | (go_at_call 101; refine (Q.out _).mono ?_; rintro e w2 ⟨rfl, rfl⟩))
     go_roundw
     case rel => exact ⟨j + 1, by omega, by go_num, A2.out, X.out⟩
     case measure => simp [intOf]; omega
    | false =>
     rw [hq] at Q
     have F := zSg (AF.out (by simp [tokS, hp, hq]))
     clear hp hq
     go_wp2_with (first
      | (go_at_call 100; refine (P.out _).mono ?_; rintro e w1 ⟨rfl, hb⟩; have X := zSg (X.out.went hb); clear hb)
      | (go_at_call 101; refine (Q.out _).mono ?_; rintro e w2 ⟨rfl, rfl⟩))
     go_ret
     exact ⟨zAK (by rw [E.out, F.out]; rfl), X.out.below⟩
  ·have F1 := zSg (zE4 A.out hlt)
   rw [F1.out, Bool.true_and] at E
   obtain ⟨x0, x1, x2, x3⟩ := X.out.box
   clear A F1 HT hj
   go_wp2
   clear x0 x1 x2 x3 hlt
   go_loopw [26] (fun i wr => ∃ j : Nat, j <= G.nons.length /\ i = .int .i64 j /\ zFd plnS G.nons j /\ Bx w ⟨a1, c1, a2, c2, a3, c3⟩ G wr) (fun i _ => G.nons.length - (intOf i).toNat)
   case atStart => exact ⟨0, Nat.zero_le _, rfl, zCJ _ _, X.out⟩
   case round =>
    clear X
    obtain ⟨j, hj, rfl, hA, hX⟩ := hrel
    have A := zSg hA
    have X := zSg hX
    clear hA hX
    by_cases hlt : j < G.nons.length
    ·obtain ⟨b, o, rfl, hc⟩ := zIJ (HN.out _ X.out.below) hlt
     have hs := NS.out _ (List.getElem_mem hlt)
     have AE := zSg (fun he => zCI A.out hlt he)
     have AF := zSg (fun he => zDa (p := plnS) hlt he)
     generalize G.nons[j] = s at hc hs AE AF
     have P := zSg (fun w1 => zGI s w1 hs)
     cases hp : plnS s with
     | true =>
      rw [hp] at P
      have A2 := zSg (AE.out hp)
      clear hp
      go_wp2_with (go_at_call 100; refine (P.out _).mono ?_; rintro e w1 ⟨rfl, hb⟩; have X := zSg (X.out.went hb); clear hb)
      go_roundw
      case rel => exact ⟨j + 1, by omega, by go_num, A2.out, X.out⟩
      case measure => simp [intOf]; omega
     | false =>
      rw [hp] at P
      have F := zSg (AF.out hp)
      clear hp
      go_wp2_with (go_at_call 100; refine (P.out _).mono ?_; rintro e w1 ⟨rfl, hb⟩; have X := zSg (X.out.went hb); clear hb)
      go_ret
      exact ⟨zAK (by rw [E.out, F.out]; rfl), X.out.below⟩
    ·have F := zSg (zE4 A.out hlt)
     go_wp2
     go_ret
     exact ⟨zAK (by rw [E.out, F.out]; rfl), X.out.below⟩
