/-
  What the method Error of a chain answers, and what fmt.Errorf makes of it: one more wrap. Conditions: at most 40 layers; what stands in fmt's place gives a text no more than six bytes longer than the wrapped one's.
-/
import Derived.Test.YtoolmokcbdkhoaaFmtFaultChain
import Derived.WalkSpells
import Derived.BigCall
namespace Go.Proofs.YtoolmokcbdkhoaaFmt.Fa
open Go.RowKit Go.Extern.Stop Go.Stop Go.Extern Go.Kit Go.Lib

/-- What a contract of the method Error of one value says, in every world behind w. -/
def SaysIn (w : World) (u : Value) (n : Nat) : Prop := ∀ w1, Below w.heap.size w w1 → ∀ f x, Says u f x → Calls Tryf.prog f #[x] w1 (Text n w1)

set_option maxHeartbeats 1000000 in
set_option maxRecDepth 100000 in
theorem named_text (p : Nat) (s : ByteArray) (u : Value) (n : Nat) (w : World) (h0 : w.cell? ⟨p, 0, none⟩ = some (.string s)) (h1 : w.cell? ⟨p, 1, none⟩ = some u) (hs : s.size ≤ 140737488355328) (hn : n ≤ 5770237022571400)
    (hu : Hid (∃ T x f, u = .iface T x ∧ (∀ w1, (Go.method 227 T x "Error").run Tryf.prog w1 = .ok (f, x) w1) ∧ (∀ (args : Array Value) w1, (callFunc f args).run Tryf.prog w1 = .ok (.enter f args) w1) ∧ Says u f x)) (hS : Hid (SaysIn w u n)) :
    Calls Tryf.prog 55 #[.pointer (some ⟨p, 0, none⟩)] w (Text (n + big) w) := by
  obtain ⟨T, x, f, rfl, hm, hen, hsay⟩ := hu.out
  have hN : Hid (n ≤ 5770237022571400) := Lib.hid hn
  have hZ : Hid (s.size ≤ 140737488355328) := Lib.hid hs
  clear hn hs
  have hY := Lib.hid hsay
  clear hsay
  have hp := lt_of_cell h0
  go_enter Tryf.func55, Tryf.ntmps55
  have ha1 : ∀ w1, (Op.stringOp .add s ⟨#[58, 32]⟩).run Tryf.prog w1 = .ok (.string (s ++ ⟨#[58, 32]⟩)) w1 := fun w1 => run_string_add_sum (P := Tryf.prog) w1 _ _ (by have := hZ.out; have e : (⟨#[58, 32]⟩ : ByteArray).size = 2 := rfl; omega)
  go_wp2_with fail
  go_region_held3 (fun w' => w'.cell? ⟨p, 0, none⟩ = some (.string s) ∧ w'.cell? ⟨p, 1, none⟩ = some (.iface T x) ∧ Below w.heap.size w w') (first | exact ⟨by simpa using h0, by simpa using h1, (Below.refl _ _).drew⟩ | exact ⟨k0, k1, kB⟩)
    (first | (refine (hS.out _ (Below.refl _ _).drew f x hY.out).mono ?_; rintro e w2 ⟨s', rfl, hs', hb'⟩
              have k0 : w2.cell? ⟨p, 0, none⟩ = some (.string s) := by rw [hb'.cell (p := ⟨p, 0, none⟩) (by simpa using hp)]; simpa using h0
              have k1 : w2.cell? ⟨p, 1, none⟩ = some (.iface T x) := by rw [hb'.cell (p := ⟨p, 1, none⟩) (by simpa using hp)]; simpa using h1
              have kB : Below w.heap.size w w2 := ((Below.refl _ _).drew).trans (hb'.mono (by simp))
              have ha2 : ∀ w1, (Op.stringOp .add (s ++ ⟨#[58, 32]⟩) s').run Tryf.prog w1 = .ok (.string (s ++ ⟨#[58, 32]⟩ ++ s')) w1 := fun w1 => run_string_add_sum (P := Tryf.prog) w1 _ _ (by have := hZ.out; have := hN.out; have e : (⟨#[58, 32]⟩ : ByteArray).size = 2 := rfl; rw [ByteArray.size_append]; omega)
              have hs2 : (s ++ ⟨#[58, 32]⟩ ++ s').size ≤ n + big := (by have := hZ.out; have e : (⟨#[58, 32]⟩ : ByteArray).size = 2 := rfl; rw [ByteArray.size_append, ByteArray.size_append]; unfold big; omega)
              have HS2 := Lib.hid hs2
              clear hs2 hb' hs'))
  go_wp2
  go_ret
  exact ⟨_, rfl, HS2.out, kB⟩

theorem big_tb (n : Nat) : big ≤ tb n := by rw [← tb_zero]; exact tb_le (Nat.zero_le n)

/-- The method Error of a chain's value: a text comes back. -/
theorem chain_text (L : List Lay) : ∀ (b : Base) (v : Value) (w : World), Ch w L b v → L.length ≤ 40 → SaysIn w v (tb L.length) := by
  induction L with
  | nil =>
    intro b v w h _ w1 hb f x hs
    have h' := h.keep hb
    cases h' with
    | fault e at_ => cases hs; exact (fault_text e at_ w1).mono fun e w2 ⟨s, h1, h2, h3⟩ => ⟨s, h1, by rw [List.length_nil, tb_zero]; exact h2, h3⟩
    | other p s hc h15 =>
      cases hs
      exact (es_text p s w1 hc).mono fun e w2 ⟨h1, h2⟩ => ⟨s, h1, by rw [List.length_nil, tb_zero]; unfold big; omega, by rw [← h2]; exact Below.refl _ _⟩
  | cons l L ih =>
    intro b v w h hl w1 hb f x hs
    have h' := h.keep hb
    cases h' with
    | named p s u _ _ h0 h1 hsz hu =>
      cases hs
      have hS := ih b u w1 hu (by simp at hl; omega)
      have hlen : tb L.length ≤ 5770237022571400 := tb_lt _ (by simp at hl; omega)
      have hk : Hid (∃ T x f, u = .iface T x ∧ (∀ w1, (Go.method 227 T x "Error").run Tryf.prog w1 = .ok (f, x) w1) ∧ (∀ (args : Array Value) w1, (callFunc f args).run Tryf.prog w1 = .ok (.enter f args) w1) ∧ Says u f x) := by
        cases hu with
        | fault e at_ => exact Lib.hid ⟨_, _, _, rfl, error_fault _, fun args w1 => by simp [go_sem], .fault _⟩
        | other q t hc _ => exact Lib.hid ⟨_, _, _, rfl, error_pes _, fun args w1 => by simp [go_sem], .pes _⟩
        | named q t u' L' b' _ _ _ _ => exact Lib.hid ⟨_, _, _, rfl, error_pnamed _, fun args w1 => by simp [go_sem], .pnamed _⟩
        | wrap q t u' L' b' _ _ _ _ => exact Lib.hid ⟨_, _, _, rfl, error_pwrap _, fun args w1 => by simp [go_sem], .pwrap _⟩
      have := named_text p s u (tb L.length) w1 h0 h1 hsz hlen hk (Lib.hid hS)
      rw [List.length_cons, tb_succ]
      exact this
    | wrap p m u _ _ h0 h1 hm hu =>
      cases hs
      exact (wrap_text p m w1 h0).mono fun e w2 ⟨h1, h2⟩ => ⟨m, h1, by rw [List.length_cons, tb_succ]; unfold big; omega, by rw [← h2]; exact Below.refl _ _⟩

end Go.Proofs.YtoolmokcbdkhoaaFmt.Fa
