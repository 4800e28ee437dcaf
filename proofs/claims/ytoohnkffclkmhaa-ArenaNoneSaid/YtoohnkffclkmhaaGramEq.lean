/-
  Lists held against each other: of strings, of numbers, by the program's generic functions and by the plain answers.
-/
import Derived.Test.YtoohnkffclkmhaaGramOf
namespace Go.Proofs.Ytoohnkffclkmhaa.Gr
open Go.RowKit Go.Maps
set_option linter.unusedVariables false

def sameI (L M : List Int) : Bool := decide (L = M)
def eqS (x y : ByteArray) : Bool := decide (x = y)
def eqI (x y : Int) : Bool := decide (x = y)

theorem lists_len {α : Type} {L M : List α} (h : L.length ≠ M.length) : ¬ L = M := fun e => h (by rw [e])
/-- The first k are the same. -/
def Alike {α : Type} (L M : List α) (k : Nat) : Prop := ∀ j (h1 : j < L.length) (h2 : j < M.length), j < k → L[j] = M[j]
theorem alike_zero {α : Type} (L M : List α) : Alike L M 0 := fun _ _ _ h => absurd h (by omega)
theorem alike_step {α : Type} {L M : List α} {k : Nat} (h : Alike L M k) (h1 : k < L.length) (h2 : k < M.length) (e : L[k] = M[k]) : Alike L M (k + 1) := fun j g1 g2 hj => by
  by_cases he : j = k
  · subst he
    exact e
  · exact h j g1 g2 (by omega)
theorem alike_end {α : Type} {L M : List α} {k : Nat} (h : Alike L M k) (hl : L.length = M.length) (hk : ¬ k < L.length) : L = M := List.ext_getElem hl fun i h1 h2 => h i h1 h2 (by omega)
theorem alike_fail {α : Type} {L M : List α} {k : Nat} (h1 : k < L.length) (h2 : k < M.length) (e : L[k] ≠ M[k]) : ¬ L = M := fun h => e (by subst h; rfl)
theorem reads_get {a : Option Addr} {xs : List Value} {w : World} {k n : Nat} {v : Value} (h : Sep.Reads a xs w) (hl : n = xs.length) (hk : k < n) (hv : xs[k]? = some v) : ∃ b o, a = some ⟨b, o, none⟩ ∧ w.cell? ⟨b, o + k, none⟩ = some v := by
  obtain ⟨b, o, e, hc⟩ := h k (by omega)
  refine ⟨b, o, e, hc.trans ?_⟩
  rw [List.getElem?_eq_getElem (by omega)] at hv
  exact hv

theorem bytes_eq (x : ByteArray) : (x.toList == x.toList) = true := by simp

theorem eqi_one (x y : Int) (w : World) : Calls Try.prog 71 #[.int .i64 x, .int .i64 y] w fun e w' => e = .returned (.bool (eqI x y)) ∧ w = w' := by
  go_enter Try.func71, Try.ntmps71
  go_wp2
  go_ret
  refine ⟨bool_of ?_, rfl⟩
  unfold eqI
  rw [Bool.eq_iff_iff]
  simp

set_option maxHeartbeats 1000000 in
theorem eqi_by (L M : List Int) (a b : Option Addr) (c d : Nat) (w : World) (ha : Sep.Reads a (ivs L) w) (hb : Sep.Reads b (ivs M) w) (hl : L.length ≤ 17592186044416) (hm : M.length ≤ 17592186044416) :
    Calls Try.prog 70 #[.slice a L.length c, .slice b M.length d, .func (.func 71) #[] #[]] w fun e w' => e = .returned (.bool (sameI L M)) ∧ w = w' := by
  have HA := Lib.hid ha
  have HB := Lib.hid hb
  clear ha hb
  by_cases hlen : L.length = M.length
  · have HL := Lib.hid hlen
    have hle : M.length ≤ L.length := by omega
    have hle' : L.length ≤ M.length := by omega
    have hlb : ((L.length : Int) != (M.length : Int)) = false := by simp [hlen]
    clear hlen
    go_enter Try.func70, Try.ntmps70
    go_wp2
    go_loop [16] (fun i => ∃ k : Nat, k ≤ L.length ∧ i = .int .i64 k ∧ Alike L M k) (fun i => L.length - (intOf i).toNat)
    case atStart => exact ⟨0, Nat.zero_le _, rfl, alike_zero _ _⟩
    case round =>
      obtain ⟨k, hk, rfl, hA⟩ := hrel
      have A := Lib.hid hA
      clear hA
      by_cases hlt : k < L.length
      · have hlm : k < M.length := by omega
        obtain ⟨b1, o1, rfl, h1⟩ := reads_get (v := .int .i64 L[k]) HA.out (by simp [ivs]) hlt (by simp [ivs, iv, hlt])
        obtain ⟨b2, o2, rfl, h2⟩ := reads_get (v := .int .i64 M[k]) HB.out (by simp [ivs]) hlm (by simp [ivs, iv, hlm])
        by_cases he : L[k] = M[k]
        · have A2 := Lib.hid (alike_step A.out hlt hlm he)
          have E := Lib.hid (show eqI L[k] M[k] = true by simp [eqI, he])
          clear he
          generalize L[k] = x at h1 E
          generalize M[k] = y at h2 E
          go_wp2_with (go_at_call 71; refine (eqi_one _ _ _).mono ?_; rw [E.out]; rintro e w1 ⟨rfl, rfl⟩)
          go_round
          case rel => exact ⟨k + 1, by omega, by go_num, A2.out⟩
          case measure => simp [intOf]; omega
        · have F := Lib.hid (show sameI L M = false by simpa [sameI] using alike_fail hlt hlm he)
          have E := Lib.hid (show eqI L[k] M[k] = false by simp [eqI, he])
          clear he
          generalize L[k] = x at h1 E
          generalize M[k] = y at h2 E
          go_wp2_with (go_at_call 71; refine (eqi_one _ _ _).mono ?_; rw [E.out]; rintro e w1 ⟨rfl, rfl⟩)
          go_ret
          exact ⟨bool_of F.out, rfl⟩
      · have F := Lib.hid (show sameI L M = true by simpa [sameI] using alike_end A.out HL.out hlt)
        go_wp2
        go_ret
        exact ⟨bool_of F.out, rfl⟩
  · have F := Lib.hid (show sameI L M = false by simpa [sameI] using lists_len hlen)
    have hlb : ((L.length : Int) != (M.length : Int)) = true := by simpa using fun h => hlen (by omega)
    clear hlen
    go_enter Try.func70, Try.ntmps70
    go_wp2
    go_ret
    exact ⟨bool_of F.out, rfl⟩

theorem eqi_any (L M : List Int) (a b : Option Addr) (c d : Nat) (w : World) (ha : Sep.Reads a (ivs L) w) (hb : Sep.Reads b (ivs M) w) (hl : L.length ≤ 17592186044416) (hm : M.length ≤ 17592186044416) :
    Calls Try.prog 62 #[.slice a L.length c, .slice b M.length d] w fun e w' => e = .returned (.bool (sameI L M)) ∧ w = w' := by
  have H := Lib.hid (eqi_by L M a b c d w ha hb hl hm)
  clear ha hb
  go_enter Try.func62, Try.ntmps62
  go_wp2_with (go_at_call 70; refine H.out.mono ?_; rintro e w1 ⟨rfl, rfl⟩)
  go_ret
  exact ⟨rfl, rfl⟩

end Go.Proofs.Ytoohnkffclkmhaa.Gr
