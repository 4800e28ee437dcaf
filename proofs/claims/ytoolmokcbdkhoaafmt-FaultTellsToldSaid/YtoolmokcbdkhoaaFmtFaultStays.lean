/-
  The walks of the statement FaultStays of layer 2, and of what both statements ask besides: 'the program computes at all'. Conditions: errors' own variable for the type error holds what the program's text lays there; what stands in fmt's place tells fmt's text; a string fits a machine's memory.
-/
import Derived.Test.YtoolmokcbdkhoaaFmtFaultRest
namespace Go.Proofs.YtoolmokcbdkhoaaFmt.Fa
open Go.RowKit Go.Extern.Stop Go.Stop Go.Extern Go.Kit Go.Lib

set_option maxHeartbeats 2000000 in
set_option maxRecDepth 100000 in
theorem awake_any (w : World) (hg : ErrType w) : Calls Tryf.prog 5 #[] w (Yes w) := by
  have HG := Lib.hid hg
  have HB := Lib.hid (Below.refl w.heap.size w)
  clear hg
  go_enter Tryf.func5, Tryf.ntmps5
  go_wp2_with (first
    | (go_at_call 15; go_loud (refine (new_fault 2 7 _ (by decide)).mono ?_; rintro x w' ⟨rfl, rfl⟩))
    | (go_at_call 16; go_loud (refine (in_chain ⟨#[103]⟩ [] (.fault 2 7) _ _ (by decide) (.fault 2 7)).mono ?_; rintro x wn ⟨v, rfl, hc, hb⟩; have HC := Lib.hid hc; replace HG := Lib.hid (HG.out.keep hb); replace HB := Lib.hid (step HB.out hb); clear hc hb))
    | (go_at_call 7; go_loud (refine (code_hit _ 2 7 v _ HG.out HC.out (by decide)).mono ?_; rintro x wn ⟨rfl, hb⟩; replace HC := Lib.hid (HC.out.keep hb); replace HG := Lib.hid (HG.out.keep hb); replace HB := Lib.hid (step HB.out hb); clear hb))
    | (go_at_call 9; go_loud (refine (at_hit _ 2 7 v _ HG.out HC.out (by decide)).mono ?_; rintro x wn ⟨rfl, hb⟩; replace HC := Lib.hid (HC.out.keep hb); replace HG := Lib.hid (HG.out.keep hb); replace HB := Lib.hid (step HB.out hb); clear hb))
    | (go_at_call 11; go_loud (refine (name_hit _ _ ⟨#[103]⟩ v _ HG.out HC.out rfl).mono ?_; rintro x wn ⟨rfl, hb⟩; replace HC := Lib.hid (HC.out.keep hb); replace HG := Lib.hid (HG.out.keep hb); replace HB := Lib.hid (step HB.out hb); clear hb))
    | (go_at_call 13; go_loud (refine (isf_yes _ 2 7 v _ HC.out).mono ?_; rintro x wn ⟨rfl, hb⟩; replace HB := Lib.hid (step HB.out hb); clear hb)))
  go_ret
  exact ⟨rfl, HB.out⟩

set_option maxHeartbeats 4000000 in
set_option maxRecDepth 100000 in
theorem stays_ok (at_ c : Int) (s : ByteArray) (w : World) (hg : ErrType w) :
    Calls Tryf.prog 4 #[.int .i64 0, .int .i64 at_, .string s, .int .u8 c] w (Yes w) := by
  have HG := Lib.hid hg
  clear hg
  go_enter Tryf.func4, Tryf.ntmps4
  go_wp2_with (first
    | (go_at_call 15; go_loud (refine (new_ok _ _).mono ?_; rintro x w' ⟨rfl, rfl⟩))
    | (go_at_call 16; go_loud (refine (in_nil _ _).mono ?_; rintro x w' ⟨rfl, rfl⟩))
    | (go_at_call 5; go_loud (refine (awake_any _ HG.out).mono ?_; rintro x wn ⟨rfl, hb⟩; have HB := Lib.hid hb; clear hb)))
  go_ret
  exact ⟨rfl, HB.out⟩

set_option maxHeartbeats 4000000 in
set_option maxRecDepth 100000 in
theorem stays_fault (F : Interp) (hT : Tells F) (e at_ : Int) (c : Nat) (s : ByteArray) (w : World) (hF : F.answers w.tape) (hg : ErrType w) (hne : ¬ e = 0) (hs : s.size ≤ 140737488355328) (hc0 : c ≤ 255) :
    Calls Tryf.prog 4 #[.int .i64 e, .int .i64 at_, .string s, .int .u8 (c : Int)] w (Yes w) := by
  have HG := Lib.hid hg
  have HF := Lib.hid hF
  have HT := Lib.hid hT
  have HS := Lib.hid hs
  have HE := Lib.hid (show (e != 0) = true by simpa using hne)
  clear hg hF hT hs
  go_enter Tryf.func4, Tryf.ntmps4
  go_wp2_with (go_at_call 15; go_loud (refine (new_fault e at_ _ hne).mono ?_; rintro x w' ⟨rfl, rfl⟩))
  clear hne
  go_loopg [9, 10] (c % 20) (fun k v i wr => ∃ (j : Nat) (L : List Lay), j ≤ c % 20 ∧ k = c % 20 - j ∧ i = .int .i64 j ∧ L.length = 2 * j ∧ Ch wr L (.fault e at_) v ∧ ErrType wr ∧ F.answers wr.tape ∧ Below w.heap.size w wr)
  case atStart => exact ⟨0, [], Nat.zero_le _, rfl, rfl, rfl, .fault e at_, HG.out, HF.out, Below.refl _ _⟩
  case round =>
    obtain ⟨j, L, hj, hk, rfl, hl, hch, hg, hf, hb⟩ := hrel
    obtain ⟨T, x, rfl⟩ := hch.iface
    have HK := Lib.hid hk
    have HL := Lib.hid hl
    have HC := Lib.hid hch
    replace HG := Lib.hid hg
    replace HF := Lib.hid hf
    have HB := Lib.hid hb
    clear hk hl hch hg hf hb
    have hm : c % 20 < 20 := Nat.mod_lt _ (by decide)
    by_cases hlt : j < c % 20
    · have hlt' : decide ((j : Int) < (c : Int) % 20) = true := by simp; omega
      have hb1 : Below wr.heap.size wr (wr.alloc (.cells #[.iface T x] 20)) := (Below.refl _ _).alloc (Nat.le_refl _) _
      have HC1 := Lib.hid (HC.out.keep hb1)
      have HF1 := Lib.hid (tape_below F hb1 HF.out)
      have HB1 := Lib.hid (step HB.out hb1)
      have HG1 := Lib.hid (HG.out.keep hb1)
      have HL40 := Lib.hid (show L.length ≤ 40 by have := HL.out; omega)
      clear hb1 HC HG HF HB
      go_wp2_with (first
        | (go_at_call 17; go_loud (refine (errorf_y F HT.out L _ _ wr.heap.size _ HF1.out HL40.out (by simp) HC1.out).mono ?_; rintro y wn ⟨u, rfl, hc, hb⟩; have HC2 := Lib.hid hc; have HF2 := Lib.hid (tape_below F hb HF1.out); have HB2 := Lib.hid (step HB1.out hb); have HG2 := Lib.hid (HG1.out.keep hb); clear hc hb))
        | (go_at_call 16; go_loud (refine (in_chain ⟨#[120]⟩ _ _ _ _ (by decide) HC2.out).mono ?_; rintro y wm ⟨u2, rfl, hc, hb⟩; have HC3 := Lib.hid hc; have HF3 := Lib.hid (tape_below F hb HF2.out); have HB3 := Lib.hid (step HB2.out hb); have HG3 := Lib.hid (HG2.out.keep hb); clear hc hb)))
      go_roundg (c % 20 - (j + 1))
      case measure => rw [HK.out]; omega
      case rel => exact ⟨j + 1, _, by omega, rfl, by go_num, by have := HL.out; simp; omega, HC3.out, HG3.out, HF3.out, HB3.out⟩
    · have hlt' : decide ((j : Int) < (c : Int) % 20) = false := by simp; omega
      go_wp2_with (first
        | (go_at_call 16; go_loud (refine (in_chain s L _ _ _ HS.out HC.out).mono ?_; rintro y wn ⟨v, rfl, hc, hb⟩; replace HC := Lib.hid hc; replace HG := Lib.hid (HG.out.keep hb); replace HB := Lib.hid (step HB.out hb); clear hc hb))
        | (go_at_call 7; go_loud (refine (code_hit _ e at_ v _ HG.out HC.out HE.out).mono ?_; rintro y wn ⟨rfl, hb⟩; replace HC := Lib.hid (HC.out.keep hb); replace HG := Lib.hid (HG.out.keep hb); replace HB := Lib.hid (step HB.out hb); clear hb))
        | (go_at_call 9; go_loud (refine (at_hit _ e at_ v _ HG.out HC.out HE.out).mono ?_; rintro y wn ⟨rfl, hb⟩; replace HC := Lib.hid (HC.out.keep hb); replace HG := Lib.hid (HG.out.keep hb); replace HB := Lib.hid (step HB.out hb); clear hb))
        | (go_at_call 11; go_loud (refine (name_hit _ _ s v _ HG.out HC.out rfl).mono ?_; rintro y wn ⟨rfl, hb⟩; replace HC := Lib.hid (HC.out.keep hb); replace HG := Lib.hid (HG.out.keep hb); replace HB := Lib.hid (step HB.out hb); clear hb))
        | (go_at_call 13; go_loud (refine (isf_yes _ e at_ v _ HC.out).mono ?_; rintro y wn ⟨rfl, hb⟩; replace HC := Lib.hid (HC.out.keep hb); replace HG := Lib.hid (HG.out.keep hb); replace HB := Lib.hid (step HB.out hb); clear hb))
        | (go_at_call 18; go_loud (refine (is_errno _ e at_ v _ HC.out).mono ?_; rintro y wn ⟨rfl, hb⟩; replace HC := Lib.hid (HC.out.keep hb); replace HG := Lib.hid (HG.out.keep hb); replace HB := Lib.hid (step HB.out hb); clear hb))
        | (go_at_call 5; go_loud (refine (awake_any _ HG.out).mono ?_; rintro y wn ⟨rfl, hb⟩; replace HB := Lib.hid (step HB.out hb); clear hb)))
      go_ret
      exact ⟨rfl, HB.out⟩


end Go.Proofs.YtoolmokcbdkhoaaFmt.Fa
