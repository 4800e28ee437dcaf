/-
  math/bits.OnesCount64's steps, as numbers: what they come to is the sum of the 64 bits. Of no program.
-/
import Derived.Test.YtljblpekpmgmaaaGreatDoorBitsPlain
namespace Go.Proofs.YtljblpekpmgmaaaGreatDoor.Bt

/-- Eight digits to base 256. -/
def d8 (a b c d e f g h : Nat) : Nat := a + 256 * (b + 256 * (c + 256 * (d + 256 * (e + 256 * (f + 256 * (g + 256 * h))))))

/-- The first step. -/
def o1 (x : Nat) : Nat := (x / 2 &&& 6148914691236517205) + (x &&& 6148914691236517205)
/-- The second. -/
def o2 (x : Nat) : Nat := (x / 4 &&& 3689348814741910323) + (x &&& 3689348814741910323)
/-- The third. -/
def o3 (x : Nat) : Nat := (x / 16 + x) &&& 1085102592571150095
/-- A sum of a number and its upper part. -/
def o4 (s x : Nat) : Nat := x + x / s

theorem o1_eq (x : Nat) : o1 x = hv 1 32 x := rfl
theorem o2_eq (x : Nat) : o2 x = hv 2 16 x := rfl

/-- K digits to base 2^w, each at most m, and nothing else. -/
def digs (w m : Nat) : Nat → Nat → Prop
  | 0, x => x = 0
  | K + 1, x => x % 2 ^ w ≤ m ∧ digs w m K (x / 2 ^ w)

theorem digs_any : ∀ (K x : Nat), x < 2 ^ K → digs 1 1 K x
  | 0, x, h => by simp at h; exact h
  | K + 1, x, h => by
    refine ⟨by simp; omega, digs_any K _ ?_⟩
    rw [Nat.pow_succ] at h
    simp; omega

theorem digs_low {w m : Nat} : ∀ {K x : Nat}, digs w m K x → x % 2 ^ w ≤ m
  | 0, x, h => by have : x = 0 := h; subst this; simp
  | _ + 1, _, h => h.1

/-- A halving's digits. -/
theorem digs_hv (w m : Nat) (hw : 0 < w) : ∀ (K x : Nat), digs w m (K + K) x → digs (w + w) (m + m) K (hv w K x)
  | 0, x, h => by simp [hv, msk, digs]
  | K + 1, x, h => by
    rw [show K + 1 + (K + 1) = K + K + 1 + 1 from by omega] at h
    obtain ⟨h1, h2, h3⟩ := h
    rw [Nat.div_div_eq_div_mul, ← Nat.pow_add] at h3
    have hp : 2 ^ w * 2 ^ w = 2 ^ (w + w) := by rw [Nat.pow_add]
    have g1 : 2 ≤ 2 ^ w := by
      have := Nat.pow_le_pow_right (n := 2) (by decide) (show 1 ≤ w from hw)
      simpa using this
    have g2 : 2 * 2 ^ w ≤ 2 ^ w * 2 ^ w := Nat.mul_le_mul_right _ g1
    have m1 := Nat.mod_lt (x / 2 ^ w) (show 2 ^ w > 0 by omega)
    have m2 := Nat.mod_lt x (show 2 ^ w > 0 by omega)
    have hlt : x / 2 ^ w % 2 ^ w + x % 2 ^ w < 2 ^ (w + w) := by omega
    rw [hv_succ]
    refine ⟨?_, ?_⟩
    · rw [Nat.mul_comm, Nat.mul_add_mod, Nat.mod_eq_of_lt hlt]; omega
    · rw [Nat.mul_comm, Nat.mul_add_div (by omega), Nat.div_eq_of_lt hlt, Nat.add_zero]
      exact digs_hv w m hw K _ h3

/-- The third step is a halving, too, where no sum passes 15. -/
theorem sum_and : ∀ (K x : Nat), digs 4 4 (K + K) x → (x / 16 + x) &&& msk 4 K = hv 4 K x
  | 0, x, _ => by simp [msk, hv]
  | K + 1, x, h => by
    rw [show K + 1 + (K + 1) = K + K + 1 + 1 from by omega] at h
    obtain ⟨h1, h2, h3⟩ := h
    have e3 : x / 2 ^ 4 / 2 ^ 4 = x / 256 := by rw [Nat.div_div_eq_div_mul]
    rw [e3] at h3
    have ih := sum_and K _ h3
    have h4 := digs_low h3
    rw [hv_succ, msk_and]
    simp only [Nat.reducePow, Nat.reduceAdd] at *
    have q : (x / 16 + x) / 256 = x / 256 / 16 + x / 256 := by omega
    have r : (x / 16 + x) % 16 = x / 16 % 16 + x % 16 := by omega
    rw [q, r, ih]

theorem eight (x : Nat) (h : digs 8 8 8 x) : ∃ a b c d e f g k, x = d8 a b c d e f g k ∧ a ≤ 8 ∧ b ≤ 8 ∧ c ≤ 8 ∧ d ≤ 8 ∧ e ≤ 8 ∧ f ≤ 8 ∧ g ≤ 8 ∧ k ≤ 8 ∧ vs 8 8 x = a + b + c + d + e + f + g + k := by
  obtain ⟨h0, h1, h2, h3, h4, h5, h6, h7, h8⟩ := h
  refine ⟨_, _, _, _, _, _, _, _, ?_, h0, h1, h2, h3, h4, h5, h6, h7, ?_⟩
  · simp only [digs, Nat.reducePow] at *
    unfold d8
    omega
  · simp only [vs, Nat.add_zero, Nat.add_assoc]

theorem d8_div (a b c d e f g h : Nat) (ha : a < 256) : d8 a b c d e f g h / 256 = d8 b c d e f g h 0 := by
  unfold d8; omega
theorem d8_div2 (a b c d e f g h : Nat) (ha : a < 256) (hb : b < 256) : d8 a b c d e f g h / 65536 = d8 c d e f g h 0 0 := by
  unfold d8; omega
theorem d8_div4 (a b c d e f g h : Nat) (ha : a < 256) (hb : b < 256) (hc : c < 256) (hd : d < 256) : d8 a b c d e f g h / 4294967296 = d8 e f g h 0 0 0 0 := by
  unfold d8; omega
theorem d8_add (a b c d e f g h a' b' c' d' e' f' g' h' : Nat) : d8 a b c d e f g h + d8 a' b' c' d' e' f' g' h' = d8 (a + a') (b + b') (c + c') (d + d') (e + e') (f + f') (g + g') (h + h') := by
  unfold d8; omega
theorem d8_mod (a b c d e f g h : Nat) (ha : a < 128) : d8 a b c d e f g h % 128 = a := by
  unfold d8; omega
theorem d8_lt (a b c d e f g h : Nat) (ha : a < 256) (hb : b < 256) (hc : c < 256) (hd : d < 256) (he : e < 256) (hf : f < 256) (hg : g < 256) (hh : h < 128) : d8 a b c d e f g h < 9223372036854775808 := by
  unfold d8; omega

/-- All of it. -/
theorem ones (x : Nat) (hx : x < 18446744073709551616) :
    o4 4294967296 (o4 65536 (o4 256 (o3 (o2 (o1 x))))) % 128 = vs 1 64 x ∧ o4 4294967296 (o4 65536 (o4 256 (o3 (o2 (o1 x))))) < 9223372036854775808 ∧
    o1 x < 18446744073709551616 ∧ o2 (o1 x) < 18446744073709551616 ∧ o2 (o1 x) / 16 + o2 (o1 x) < 18446744073709551616 ∧ o3 (o2 (o1 x)) < 9223372036854775808 ∧
    o4 256 (o3 (o2 (o1 x))) < 9223372036854775808 ∧ o4 65536 (o4 256 (o3 (o2 (o1 x)))) < 9223372036854775808 := by
  have a0 := digs_any 64 x hx
  have a1 := digs_hv 1 1 (by decide) 32 x a0
  have a2 := digs_hv 2 2 (by decide) 16 _ a1
  have a3 := digs_hv 4 4 (by decide) 8 _ a2
  have e3 : o3 (o2 (o1 x)) = hv 4 8 (hv 2 16 (hv 1 32 x)) := sum_and 8 _ a2
  have v1 := vs_hv 1 (by decide) 32 x
  have v2 := vs_hv 2 (by decide) 16 (hv 1 32 x)
  have v3 := vs_hv 4 (by decide) 8 (hv 2 16 (hv 1 32 x))
  have hb : ∀ y m, y &&& m ≤ m := fun y m => Nat.and_le_right
  have b1 : o1 x < 18446744073709551616 := by
    have := hb (x / 2) 6148914691236517205
    have := hb x 6148914691236517205
    unfold o1; omega
  have b2 : o2 (o1 x) ≤ 7378697629483820646 := by
    have := hb (o1 x / 4) 3689348814741910323
    have := hb (o1 x) 3689348814741910323
    unfold o2; omega
  obtain ⟨a, b, c, d, e, f, g, k, hy, ha, hb', hc, hd, he, hf, hg, hk, hs⟩ := eight _ a3
  rw [e3, hy]
  have s1 : o4 256 (d8 a b c d e f g k) = d8 (a + b) (b + c) (c + d) (d + e) (e + f) (f + g) (g + k) k := by
    unfold o4; rw [d8_div _ _ _ _ _ _ _ _ (by omega), d8_add, Nat.add_zero]
  rw [s1]
  have s2 : o4 65536 (d8 (a + b) (b + c) (c + d) (d + e) (e + f) (f + g) (g + k) k) = d8 (a + b + (c + d)) (b + c + (d + e)) (c + d + (e + f)) (d + e + (f + g)) (e + f + (g + k)) (f + g + k) (g + k) k := by
    unfold o4; rw [d8_div2 _ _ _ _ _ _ _ _ (by omega) (by omega), d8_add, Nat.add_zero, Nat.add_zero]
  rw [s2]
  have s3 : o4 4294967296 (d8 (a + b + (c + d)) (b + c + (d + e)) (c + d + (e + f)) (d + e + (f + g)) (e + f + (g + k)) (f + g + k) (g + k) k) = d8 (a + b + (c + d) + (e + f + (g + k))) (b + c + (d + e) + (f + g + k)) (c + d + (e + f) + (g + k)) (d + e + (f + g) + k) (e + f + (g + k)) (f + g + k) (g + k) k := by
    unfold o4; rw [d8_div4 _ _ _ _ _ _ _ _ (by omega) (by omega) (by omega) (by omega), d8_add, Nat.add_zero, Nat.add_zero, Nat.add_zero, Nat.add_zero]
  rw [s3]
  refine ⟨?_, d8_lt _ _ _ _ _ _ _ _ (by omega) (by omega) (by omega) (by omega) (by omega) (by omega) (by omega) (by omega), b1, by omega, by omega, d8_lt _ _ _ _ _ _ _ _ (by omega) (by omega) (by omega) (by omega) (by omega) (by omega) (by omega) (by omega), d8_lt _ _ _ _ _ _ _ _ (by omega) (by omega) (by omega) (by omega) (by omega) (by omega) (by omega) (by omega), d8_lt _ _ _ _ _ _ _ _ (by omega) (by omega) (by omega) (by omega) (by omega) (by omega) (by omega) (by omega)⟩
  rw [d8_mod _ _ _ _ _ _ _ _ (by omega)]
  have : vs 8 8 (hv 4 8 (hv 2 16 (hv 1 32 x))) = vs 1 64 x := v3.trans (v2.trans v1)
  omega

end Go.Proofs.YtljblpekpmgmaaaGreatDoor.Bt
