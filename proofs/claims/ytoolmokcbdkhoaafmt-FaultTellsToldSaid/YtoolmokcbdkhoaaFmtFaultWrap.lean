/-
  fmt.Errorf("more: %w", err) and fmt.Errorf("y: %w", err) on a chain: the chain within one more wrap; nothing that was there is written. Conditions: at most 40 layers; what stands in fmt's place gives a text no more than six bytes longer than the wrapped one's.
-/
import Derived.Test.YtoolmokcbdkhoaaFmtFaultErr
namespace Go.Proofs.YtoolmokcbdkhoaaFmt.Fa
open Go.RowKit Go.Extern.Stop Go.Stop Go.Extern Go.Kit Go.Lib

def Wrapped (L : List Lay) (b : Base) (w : World) (e : Ending) (w' : World) : Prop := ∃ v, e = .returned v ∧ Ch w' (.wrap :: L) b v ∧ Below w.heap.size w w'

theorem tape_below {w w' : World} {B : Nat} (F : Interp) (hb : Below B w w') (hF : F.answers w.tape) : F.answers w'.tape := by rw [hb.tape]; exact hF


set_option maxHeartbeats 1000000 in
set_option maxRecDepth 100000 in
theorem errorf_fault_more (F : Interp) (hT : Hid (Tells F)) (x : Value) (n : Nat) (blk : Nat) (w : World) (hF : F.answers w.tape) (hn : Hid (n ≤ 5770237022571400))
    (hc : w.cell? ⟨blk, 0, none⟩ = some (.iface 47 x)) (hS : Hid (SaysIn w (.iface 47 x) n)) :
    Calls Tryf.prog 17 #[.string ⟨#[109, 111, 114, 101, 58, 32, 37, 119]⟩, .slice (some ⟨blk, 0, none⟩) 1 1] w (fun e w' => ∃ p m, e = .returned (.iface 59 (.pointer (some ⟨p, 0, none⟩))) ∧ w'.cell? ⟨p, 0, none⟩ = some (.string m) ∧ w'.cell? ⟨p, 1, none⟩ = some (.iface 47 x) ∧ m.size ≤ n + 6 ∧ Below w.heap.size w w') := by
  have hF' := answers_open hF
  have hb := lt_of_cell hc
  have c1 := call_errorf
  have c2 := guard
  have c3 := fmt_more
  have c4 := fmt_more_r
  have c5 := act_fault
  have c6 := isError_fault
  have c7 := str_fault
  have c8 := ptr_pwrap
  have c9 := elem_pwrap
  go_enter Tryf.func17, Tryf.ntmps17
  go_wp2
  apply rows_call nextTurns
  case hr =>
    go_simp
    exact ⟨⟨rfl, rfl, rfl⟩, rfl⟩
  case hi => exact invokeError_fault _ _
  case hc =>
    refine (hS.out _ ?_ _ x (.fault x)).mono ?_
    · first | exact Below.refl _ _ | exact (Below.refl _ _).drew
    rintro e w3 ⟨s, rfl, hs, hx⟩
    have hF3 := answers_open (tape_below F hx hF)
    have hc3 : w3.cell? ⟨blk, 0, none⟩ = some (.iface 47 x) := by rw [hx.cell (p := ⟨blk, 0, none⟩) hb]; exact hc
    have HT : Hid ((FmtStop.textOf (F "fmt.errorf" [fmtB false, tyF, s.data.toList] 0)).size ≤ n + 6) := by
      have h1 := hT.out false tyF s.data.toList (.inl rfl) (by have := hn.out; rw [← size_list]; omega)
      rw [← size_list] at h1
      exact Lib.hid (by omega)
    have HX := Lib.hid hx
    clear hx hs
    apply rows_value nextReturned
    case hr =>
      go_simp
      exact ⟨rfl, rfl⟩
    case h =>
      go_wp2
      go_ret
      refine ⟨w3.heap.size, _, rfl, ?_, ?_, HT.out, ?_⟩
      · simp; rfl
      · simp
      · exact (HX.out.alloc HX.out.size _).drew


set_option maxHeartbeats 1000000 in
set_option maxRecDepth 100000 in
theorem errorf_pnamed_more (F : Interp) (hT : Hid (Tells F)) (x : Value) (n : Nat) (blk : Nat) (w : World) (hF : F.answers w.tape) (hn : Hid (n ≤ 5770237022571400))
    (hc : w.cell? ⟨blk, 0, none⟩ = some (.iface 50 x)) (hS : Hid (SaysIn w (.iface 50 x) n)) :
    Calls Tryf.prog 17 #[.string ⟨#[109, 111, 114, 101, 58, 32, 37, 119]⟩, .slice (some ⟨blk, 0, none⟩) 1 1] w (fun e w' => ∃ p m, e = .returned (.iface 59 (.pointer (some ⟨p, 0, none⟩))) ∧ w'.cell? ⟨p, 0, none⟩ = some (.string m) ∧ w'.cell? ⟨p, 1, none⟩ = some (.iface 50 x) ∧ m.size ≤ n + 6 ∧ Below w.heap.size w w') := by
  have hF' := answers_open hF
  have hb := lt_of_cell hc
  have c1 := call_errorf
  have c2 := guard
  have c3 := fmt_more
  have c4 := fmt_more_r
  have c5 := act_pnamed
  have c6 := isError_pnamed
  have c7 := str_pnamed
  have c8 := ptr_pwrap
  have c9 := elem_pwrap
  go_enter Tryf.func17, Tryf.ntmps17
  go_wp2
  apply rows_call nextTurns
  case hr =>
    go_simp
    exact ⟨⟨rfl, rfl, rfl⟩, rfl⟩
  case hi => exact invokeError_pnamed _ _
  case hc =>
    refine (hS.out _ ?_ _ x (.pnamed x)).mono ?_
    · first | exact Below.refl _ _ | exact (Below.refl _ _).drew
    rintro e w3 ⟨s, rfl, hs, hx⟩
    have hF3 := answers_open (tape_below F hx hF)
    have hc3 : w3.cell? ⟨blk, 0, none⟩ = some (.iface 50 x) := by rw [hx.cell (p := ⟨blk, 0, none⟩) hb]; exact hc
    have HT : Hid ((FmtStop.textOf (F "fmt.errorf" [fmtB false, tyN, s.data.toList] 0)).size ≤ n + 6) := by
      have h1 := hT.out false tyN s.data.toList (.inr (.inl rfl)) (by have := hn.out; rw [← size_list]; omega)
      rw [← size_list] at h1
      exact Lib.hid (by omega)
    have HX := Lib.hid hx
    clear hx hs
    apply rows_value nextReturned
    case hr =>
      go_simp
      exact ⟨rfl, rfl⟩
    case h =>
      go_wp2
      go_ret
      refine ⟨w3.heap.size, _, rfl, ?_, ?_, HT.out, ?_⟩
      · simp; rfl
      · simp
      · exact (HX.out.alloc HX.out.size _).drew


set_option maxHeartbeats 1000000 in
set_option maxRecDepth 100000 in
theorem errorf_pwrap_more (F : Interp) (hT : Hid (Tells F)) (q : Nat) (s : ByteArray) (n : Nat) (blk : Nat) (w : World) (hF : F.answers w.tape) (hn : Hid (n ≤ 5770237022571400))
    (hc : w.cell? ⟨blk, 0, none⟩ = some (.iface 59 (.pointer (some ⟨q, 0, none⟩)))) (hq : w.cell? ⟨q, 0, none⟩ = some (.string s)) (hs : Hid (s.size ≤ n)) :
    Calls Tryf.prog 17 #[.string ⟨#[109, 111, 114, 101, 58, 32, 37, 119]⟩, .slice (some ⟨blk, 0, none⟩) 1 1] w (fun e w' => ∃ p m, e = .returned (.iface 59 (.pointer (some ⟨p, 0, none⟩))) ∧ w'.cell? ⟨p, 0, none⟩ = some (.string m) ∧ w'.cell? ⟨p, 1, none⟩ = some (.iface 59 (.pointer (some ⟨q, 0, none⟩))) ∧ m.size ≤ n + 6 ∧ Below w.heap.size w w') := by
  have hF' := answers_open hF
  have c1 := call_errorf
  have c2 := guard
  have c3 := fmt_more
  have c4 := fmt_more_r
  have c5 := actPlain_pwrap
  have c6 := isError_pwrap
  have c7 := opPlain_pwrap "fmt.errorf" ⟨q, 0, none⟩ s w hq
  have c8 := ptr_pwrap
  have c9 := elem_pwrap
  have HT : Hid ((FmtStop.textOf (F "fmt.errorf" [fmtB false, plain_pwrap, s.data.toList] 0)).size ≤ n + 6) := by
    have h1 := hT.out false plain_pwrap s.data.toList (.inr (.inr (.inl rfl))) (by have := hn.out; have := hs.out; rw [← size_list]; omega)
    rw [← size_list] at h1
    have := hs.out
    exact Lib.hid (by omega)
  go_enter Tryf.func17, Tryf.ntmps17
  go_wp2
  apply rows_value nextTurns
  case hr =>
    go_simp
    exact ⟨rfl, rfl⟩
  case h =>
    go_wp2
    go_ret
    refine ⟨w.heap.size, _, rfl, ?_, ?_, HT.out, ?_⟩
    · simp; rfl
    · simp
    · exact ((Below.refl _ _).alloc (Nat.le_refl _) _).drew


set_option maxHeartbeats 1000000 in
set_option maxRecDepth 100000 in
theorem errorf_pes_more (F : Interp) (hT : Hid (Tells F)) (q : Nat) (s : ByteArray) (n : Nat) (blk : Nat) (w : World) (hF : F.answers w.tape) (hn : Hid (n ≤ 5770237022571400))
    (hc : w.cell? ⟨blk, 0, none⟩ = some (.iface 64 (.pointer (some ⟨q, 0, none⟩)))) (hq : w.cell? ⟨q, 0, none⟩ = some (.string s)) (hs : Hid (s.size ≤ n)) :
    Calls Tryf.prog 17 #[.string ⟨#[109, 111, 114, 101, 58, 32, 37, 119]⟩, .slice (some ⟨blk, 0, none⟩) 1 1] w (fun e w' => ∃ p m, e = .returned (.iface 59 (.pointer (some ⟨p, 0, none⟩))) ∧ w'.cell? ⟨p, 0, none⟩ = some (.string m) ∧ w'.cell? ⟨p, 1, none⟩ = some (.iface 64 (.pointer (some ⟨q, 0, none⟩))) ∧ m.size ≤ n + 6 ∧ Below w.heap.size w w') := by
  have hF' := answers_open hF
  have c1 := call_errorf
  have c2 := guard
  have c3 := fmt_more
  have c4 := fmt_more_r
  have c5 := actPlain_pes
  have c6 := isError_pes
  have c7 := opPlain_pes "fmt.errorf" ⟨q, 0, none⟩ s w hq
  have c8 := ptr_pwrap
  have c9 := elem_pwrap
  have HT : Hid ((FmtStop.textOf (F "fmt.errorf" [fmtB false, plain_pes, s.data.toList] 0)).size ≤ n + 6) := by
    have h1 := hT.out false plain_pes s.data.toList (.inr (.inr (.inr rfl))) (by have := hn.out; have := hs.out; rw [← size_list]; omega)
    rw [← size_list] at h1
    have := hs.out
    exact Lib.hid (by omega)
  go_enter Tryf.func17, Tryf.ntmps17
  go_wp2
  apply rows_value nextTurns
  case hr =>
    go_simp
    exact ⟨rfl, rfl⟩
  case h =>
    go_wp2
    go_ret
    refine ⟨w.heap.size, _, rfl, ?_, ?_, HT.out, ?_⟩
    · simp; rfl
    · simp
    · exact ((Below.refl _ _).alloc (Nat.le_refl _) _).drew


set_option maxHeartbeats 1000000 in
set_option maxRecDepth 100000 in
theorem errorf_fault_y (F : Interp) (hT : Hid (Tells F)) (x : Value) (n : Nat) (blk : Nat) (w : World) (hF : F.answers w.tape) (hn : Hid (n ≤ 5770237022571400))
    (hc : w.cell? ⟨blk, 0, none⟩ = some (.iface 47 x)) (hS : Hid (SaysIn w (.iface 47 x) n)) :
    Calls Tryf.prog 17 #[.string ⟨#[121, 58, 32, 37, 119]⟩, .slice (some ⟨blk, 0, none⟩) 1 1] w (fun e w' => ∃ p m, e = .returned (.iface 59 (.pointer (some ⟨p, 0, none⟩))) ∧ w'.cell? ⟨p, 0, none⟩ = some (.string m) ∧ w'.cell? ⟨p, 1, none⟩ = some (.iface 47 x) ∧ m.size ≤ n + 6 ∧ Below w.heap.size w w') := by
  have hF' := answers_open hF
  have hb := lt_of_cell hc
  have c1 := call_errorf
  have c2 := guard
  have c3 := fmt_y
  have c4 := fmt_y_r
  have c5 := act_fault
  have c6 := isError_fault
  have c7 := str_fault
  have c8 := ptr_pwrap
  have c9 := elem_pwrap
  go_enter Tryf.func17, Tryf.ntmps17
  go_wp2
  apply rows_call nextTurns
  case hr =>
    go_simp
    exact ⟨⟨rfl, rfl, rfl⟩, rfl⟩
  case hi => exact invokeError_fault _ _
  case hc =>
    refine (hS.out _ ?_ _ x (.fault x)).mono ?_
    · first | exact Below.refl _ _ | exact (Below.refl _ _).drew
    rintro e w3 ⟨s, rfl, hs, hx⟩
    have hF3 := answers_open (tape_below F hx hF)
    have hc3 : w3.cell? ⟨blk, 0, none⟩ = some (.iface 47 x) := by rw [hx.cell (p := ⟨blk, 0, none⟩) hb]; exact hc
    have HT : Hid ((FmtStop.textOf (F "fmt.errorf" [fmtB true, tyF, s.data.toList] 0)).size ≤ n + 6) := by
      have h1 := hT.out true tyF s.data.toList (.inl rfl) (by have := hn.out; rw [← size_list]; omega)
      rw [← size_list] at h1
      exact Lib.hid (by omega)
    have HX := Lib.hid hx
    clear hx hs
    apply rows_value nextReturned
    case hr =>
      go_simp
      exact ⟨rfl, rfl⟩
    case h =>
      go_wp2
      go_ret
      refine ⟨w3.heap.size, _, rfl, ?_, ?_, HT.out, ?_⟩
      · simp; rfl
      · simp
      · exact (HX.out.alloc HX.out.size _).drew


set_option maxHeartbeats 1000000 in
set_option maxRecDepth 100000 in
theorem errorf_pnamed_y (F : Interp) (hT : Hid (Tells F)) (x : Value) (n : Nat) (blk : Nat) (w : World) (hF : F.answers w.tape) (hn : Hid (n ≤ 5770237022571400))
    (hc : w.cell? ⟨blk, 0, none⟩ = some (.iface 50 x)) (hS : Hid (SaysIn w (.iface 50 x) n)) :
    Calls Tryf.prog 17 #[.string ⟨#[121, 58, 32, 37, 119]⟩, .slice (some ⟨blk, 0, none⟩) 1 1] w (fun e w' => ∃ p m, e = .returned (.iface 59 (.pointer (some ⟨p, 0, none⟩))) ∧ w'.cell? ⟨p, 0, none⟩ = some (.string m) ∧ w'.cell? ⟨p, 1, none⟩ = some (.iface 50 x) ∧ m.size ≤ n + 6 ∧ Below w.heap.size w w') := by
  have hF' := answers_open hF
  have hb := lt_of_cell hc
  have c1 := call_errorf
  have c2 := guard
  have c3 := fmt_y
  have c4 := fmt_y_r
  have c5 := act_pnamed
  have c6 := isError_pnamed
  have c7 := str_pnamed
  have c8 := ptr_pwrap
  have c9 := elem_pwrap
  go_enter Tryf.func17, Tryf.ntmps17
  go_wp2
  apply rows_call nextTurns
  case hr =>
    go_simp
    exact ⟨⟨rfl, rfl, rfl⟩, rfl⟩
  case hi => exact invokeError_pnamed _ _
  case hc =>
    refine (hS.out _ ?_ _ x (.pnamed x)).mono ?_
    · first | exact Below.refl _ _ | exact (Below.refl _ _).drew
    rintro e w3 ⟨s, rfl, hs, hx⟩
    have hF3 := answers_open (tape_below F hx hF)
    have hc3 : w3.cell? ⟨blk, 0, none⟩ = some (.iface 50 x) := by rw [hx.cell (p := ⟨blk, 0, none⟩) hb]; exact hc
    have HT : Hid ((FmtStop.textOf (F "fmt.errorf" [fmtB true, tyN, s.data.toList] 0)).size ≤ n + 6) := by
      have h1 := hT.out true tyN s.data.toList (.inr (.inl rfl)) (by have := hn.out; rw [← size_list]; omega)
      rw [← size_list] at h1
      exact Lib.hid (by omega)
    have HX := Lib.hid hx
    clear hx hs
    apply rows_value nextReturned
    case hr =>
      go_simp
      exact ⟨rfl, rfl⟩
    case h =>
      go_wp2
      go_ret
      refine ⟨w3.heap.size, _, rfl, ?_, ?_, HT.out, ?_⟩
      · simp; rfl
      · simp
      · exact (HX.out.alloc HX.out.size _).drew


set_option maxHeartbeats 1000000 in
set_option maxRecDepth 100000 in
theorem errorf_pwrap_y (F : Interp) (hT : Hid (Tells F)) (q : Nat) (s : ByteArray) (n : Nat) (blk : Nat) (w : World) (hF : F.answers w.tape) (hn : Hid (n ≤ 5770237022571400))
    (hc : w.cell? ⟨blk, 0, none⟩ = some (.iface 59 (.pointer (some ⟨q, 0, none⟩)))) (hq : w.cell? ⟨q, 0, none⟩ = some (.string s)) (hs : Hid (s.size ≤ n)) :
    Calls Tryf.prog 17 #[.string ⟨#[121, 58, 32, 37, 119]⟩, .slice (some ⟨blk, 0, none⟩) 1 1] w (fun e w' => ∃ p m, e = .returned (.iface 59 (.pointer (some ⟨p, 0, none⟩))) ∧ w'.cell? ⟨p, 0, none⟩ = some (.string m) ∧ w'.cell? ⟨p, 1, none⟩ = some (.iface 59 (.pointer (some ⟨q, 0, none⟩))) ∧ m.size ≤ n + 6 ∧ Below w.heap.size w w') := by
  have hF' := answers_open hF
  have c1 := call_errorf
  have c2 := guard
  have c3 := fmt_y
  have c4 := fmt_y_r
  have c5 := actPlain_pwrap
  have c6 := isError_pwrap
  have c7 := opPlain_pwrap "fmt.errorf" ⟨q, 0, none⟩ s w hq
  have c8 := ptr_pwrap
  have c9 := elem_pwrap
  have HT : Hid ((FmtStop.textOf (F "fmt.errorf" [fmtB true, plain_pwrap, s.data.toList] 0)).size ≤ n + 6) := by
    have h1 := hT.out true plain_pwrap s.data.toList (.inr (.inr (.inl rfl))) (by have := hn.out; have := hs.out; rw [← size_list]; omega)
    rw [← size_list] at h1
    have := hs.out
    exact Lib.hid (by omega)
  go_enter Tryf.func17, Tryf.ntmps17
  go_wp2
  apply rows_value nextTurns
  case hr =>
    go_simp
    exact ⟨rfl, rfl⟩
  case h =>
    go_wp2
    go_ret
    refine ⟨w.heap.size, _, rfl, ?_, ?_, HT.out, ?_⟩
    · simp; rfl
    · simp
    · exact ((Below.refl _ _).alloc (Nat.le_refl _) _).drew


set_option maxHeartbeats 1000000 in
set_option maxRecDepth 100000 in
theorem errorf_pes_y (F : Interp) (hT : Hid (Tells F)) (q : Nat) (s : ByteArray) (n : Nat) (blk : Nat) (w : World) (hF : F.answers w.tape) (hn : Hid (n ≤ 5770237022571400))
    (hc : w.cell? ⟨blk, 0, none⟩ = some (.iface 64 (.pointer (some ⟨q, 0, none⟩)))) (hq : w.cell? ⟨q, 0, none⟩ = some (.string s)) (hs : Hid (s.size ≤ n)) :
    Calls Tryf.prog 17 #[.string ⟨#[121, 58, 32, 37, 119]⟩, .slice (some ⟨blk, 0, none⟩) 1 1] w (fun e w' => ∃ p m, e = .returned (.iface 59 (.pointer (some ⟨p, 0, none⟩))) ∧ w'.cell? ⟨p, 0, none⟩ = some (.string m) ∧ w'.cell? ⟨p, 1, none⟩ = some (.iface 64 (.pointer (some ⟨q, 0, none⟩))) ∧ m.size ≤ n + 6 ∧ Below w.heap.size w w') := by
  have hF' := answers_open hF
  have c1 := call_errorf
  have c2 := guard
  have c3 := fmt_y
  have c4 := fmt_y_r
  have c5 := actPlain_pes
  have c6 := isError_pes
  have c7 := opPlain_pes "fmt.errorf" ⟨q, 0, none⟩ s w hq
  have c8 := ptr_pwrap
  have c9 := elem_pwrap
  have HT : Hid ((FmtStop.textOf (F "fmt.errorf" [fmtB true, plain_pes, s.data.toList] 0)).size ≤ n + 6) := by
    have h1 := hT.out true plain_pes s.data.toList (.inr (.inr (.inr rfl))) (by have := hn.out; have := hs.out; rw [← size_list]; omega)
    rw [← size_list] at h1
    have := hs.out
    exact Lib.hid (by omega)
  go_enter Tryf.func17, Tryf.ntmps17
  go_wp2
  apply rows_value nextTurns
  case hr =>
    go_simp
    exact ⟨rfl, rfl⟩
  case h =>
    go_wp2
    go_ret
    refine ⟨w.heap.size, _, rfl, ?_, ?_, HT.out, ?_⟩
    · simp; rfl
    · simp
    · exact ((Below.refl _ _).alloc (Nat.le_refl _) _).drew


/-- fmt.Errorf at a chain: one more wrap. -/
theorem errorf_more (F : Interp) (hT : Tells F) (L : List Lay) (b : Base) (v : Value) (blk : Nat) (w : World) (hF : F.answers w.tape) (hl : L.length ≤ 40) (hc : w.cell? ⟨blk, 0, none⟩ = some v) (h : Ch w L b v) :
    Calls Tryf.prog 17 #[.string ⟨#[109, 111, 114, 101, 58, 32, 37, 119]⟩, .slice (some ⟨blk, 0, none⟩) 1 1] w (Wrapped L b w) := by
  have hS := Lib.hid (chain_text L b v w h hl)
  have hn := Lib.hid (tb_lt L.length hl)
  have h' := h
  cases h with
  | fault e at_ =>
    refine (errorf_fault_more F (Lib.hid hT) _ _ blk w hF hn hc hS).mono ?_
    rintro e w' ⟨p, m, rfl, h0, h1, hm, hb⟩
    exact ⟨_, rfl, .wrap p m _ _ _ h0 h1 hm (h'.keep hb), hb⟩
  | other q s hq hs =>
    refine (errorf_pes_more F (Lib.hid hT) q s _ blk w hF hn hc hq (Lib.hid (by rw [List.length_nil, tb_zero]; unfold big; omega))).mono ?_
    rintro e w' ⟨p, m, rfl, h0, h1, hm, hb⟩
    exact ⟨_, rfl, .wrap p m _ _ _ h0 h1 hm (h'.keep hb), hb⟩
  | named q s u L b _ _ _ _ =>
    refine (errorf_pnamed_more F (Lib.hid hT) _ _ blk w hF hn hc hS).mono ?_
    rintro e w' ⟨p, m, rfl, h0, h1, hm, hb⟩
    exact ⟨_, rfl, .wrap p m _ _ _ h0 h1 hm (h'.keep hb), hb⟩
  | wrap q s u L b hq _ hs _ =>
    refine (errorf_pwrap_more F (Lib.hid hT) q s _ blk w hF hn hc hq (Lib.hid (by rw [List.length_cons, tb_succ]; unfold big; omega))).mono ?_
    rintro e w' ⟨p, m, rfl, h0, h1, hm, hb⟩
    exact ⟨_, rfl, .wrap p m _ _ _ h0 h1 hm (h'.keep hb), hb⟩

/-- fmt.Errorf at a chain: one more wrap. -/
theorem errorf_y (F : Interp) (hT : Tells F) (L : List Lay) (b : Base) (v : Value) (blk : Nat) (w : World) (hF : F.answers w.tape) (hl : L.length ≤ 40) (hc : w.cell? ⟨blk, 0, none⟩ = some v) (h : Ch w L b v) :
    Calls Tryf.prog 17 #[.string ⟨#[121, 58, 32, 37, 119]⟩, .slice (some ⟨blk, 0, none⟩) 1 1] w (Wrapped L b w) := by
  have hS := Lib.hid (chain_text L b v w h hl)
  have hn := Lib.hid (tb_lt L.length hl)
  have h' := h
  cases h with
  | fault e at_ =>
    refine (errorf_fault_y F (Lib.hid hT) _ _ blk w hF hn hc hS).mono ?_
    rintro e w' ⟨p, m, rfl, h0, h1, hm, hb⟩
    exact ⟨_, rfl, .wrap p m _ _ _ h0 h1 hm (h'.keep hb), hb⟩
  | other q s hq hs =>
    refine (errorf_pes_y F (Lib.hid hT) q s _ blk w hF hn hc hq (Lib.hid (by rw [List.length_nil, tb_zero]; unfold big; omega))).mono ?_
    rintro e w' ⟨p, m, rfl, h0, h1, hm, hb⟩
    exact ⟨_, rfl, .wrap p m _ _ _ h0 h1 hm (h'.keep hb), hb⟩
  | named q s u L b _ _ _ _ =>
    refine (errorf_pnamed_y F (Lib.hid hT) _ _ blk w hF hn hc hS).mono ?_
    rintro e w' ⟨p, m, rfl, h0, h1, hm, hb⟩
    exact ⟨_, rfl, .wrap p m _ _ _ h0 h1 hm (h'.keep hb), hb⟩
  | wrap q s u L b hq _ hs _ =>
    refine (errorf_pwrap_y F (Lib.hid hT) q s _ blk w hF hn hc hq (Lib.hid (by rw [List.length_cons, tb_succ]; unfold big; omega))).mono ?_
    rintro e w' ⟨p, m, rfl, h0, h1, hm, hb⟩
    exact ⟨_, rfl, .wrap p m _ _ _ h0 h1 hm (h'.keep hb), hb⟩

end Go.Proofs.YtoolmokcbdkhoaaFmt.Fa
