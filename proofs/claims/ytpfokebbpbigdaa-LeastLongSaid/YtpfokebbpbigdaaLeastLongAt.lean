/-
  What stands in memory while the statement on long words builds its grammar. Plain facts on it.
-/
import Derived.Test.YtpfokebbpbigdaaLeastOf
import Derived.Test.YtpfokebbpbigdaaLeastAwake
import Derived.Test.YtpfokebbpbigdaaLeastChainG
import Derived.Test.YtpfokebbpbigdaaRowKit
namespace Go.Proofs.Ytpfokebbpbigdaa.Le
open Go.RowKit Go.Maps
open Go.Proofs.Ytpfokebbpbigdaa.Gr
open Go.Proofs.Ytpfokebbpbigdaa.Rw (Bk IntsV GRules row_shape gc gc_length two_at row_mono)
set_option linter.unusedVariables false

abbrev Strs (base : Nat) (L : List ByteArray) (v : Value) (w : World) : Prop := w.ownsRow base 9 1 v L.length (L.map .string)
theorem str_one (base q : Nat) (x : ByteArray) (w : World) (hq : q = w.heap.size) (hb : base ≤ q) : (w.alloc (.cells #[.string x] 9)).ownsRow base 9 1 (.slice (some ⟨q, 0, none⟩) 1 1) 1 [.string x] := by
  subst hq
  exact World.ownsRow_lit w #[.string x] 1 hb (by decide) (by simp)
theorem int_one (base q : Nat) (x : Int) (w : World) (hq : q = w.heap.size) (hb : base ≤ q) : (w.alloc (.cells #[.int .i64 x] 3)).ownsRow base 3 1 (.slice (some ⟨q, 0, none⟩) 1 1) 1 [.int .i64 x] := by
  subst hq
  exact World.ownsRow_lit w #[.int .i64 x] 1 hb (by decide) (by simp)
theorem info_str : (Try.prog.info? 9).map (fun i => (i.zero, i.size, i.bytes)) = some (some (.string ByteArray.empty), 1, 16) := by kernel_rfl

/-- Rules in a row, all whose blocks are of R. -/
def GR (R : Nat → Prop) (base : Nat) (X : List (Int × List Int)) (v : Value) (w : World) : Prop := ∃ L : List ((Int × List Int) × Value), L.map Prod.fst = X ∧ w.ownsRow base 43 2 v L.length (L.flatMap gc) ∧ (∀ x ∈ L, IntsV base x.1.2 x.2 w) ∧ (∀ x ∈ L, ∀ g, x.2.ownBlock = some g → v.ownBlock ≠ some g) ∧ (∀ g, v.ownBlock = some g → R g) ∧ ∀ x ∈ L, ∀ g, x.2.ownBlock = some g → R g
theorem GR.nil (R : Nat → Prop) (base : Nat) (w : World) : GR R base [] (.slice none 0 0) w := ⟨[], rfl, World.ownsRow_nil _ _ _ _, (fun x hx => by cases hx), (fun x hx => by cases hx), (fun g hg => by cases hg), fun x hx => by cases hx⟩
theorem GR.rules {R : Nat → Prop} {base : Nat} {X : List (Int × List Int)} {v : Value} {w : World} (h : GR R base X v w) : GRules base X v w := by
  obtain ⟨L, h1, h2, h3, h4, _, _⟩ := h
  exact ⟨L, h1, h2, h3, h4⟩
theorem GR.fr {R S : Nat → Prop} {base : Nat} {X : List (Int × List Int)} {v : Value} {w w' : World} (h : GR R base X v w) (hF : Sep.Fr S w w') (hS : ∀ k, S k → ¬ R k) : GR R base X v w' := by
  obtain ⟨L, h1, h2, h3, h4, h5, h6⟩ := h
  exact ⟨L, h1, Sep.ownsRow_at h2 fun g hg => hF.block g (h2.lt g hg).2 (fun hz => hS g hz (h5 g hg)), fun x hx => (h3 x hx).at fun g hg => hF.block g (World.ownsRow.lt (h3 x hx) g hg).2 (fun hz => hS g hz (h6 x hx g hg)), h4, h5, h6⟩
theorem GR.snoc {R : Nat → Prop} {base : Nat} {L : List ((Int × List Int) × Value)} {v v4 : Value} {d : Int × List Int} {nv : Value} {w w3 w4 : World} (hO : w.ownsRow base 43 2 v L.length (L.flatMap gc)) (hT : ∀ x ∈ L, IntsV base x.1.2 x.2 w) (hA : ∀ x ∈ L, ∀ g, x.2.ownBlock = some g → v.ownBlock ≠ some g)
    (h5 : ∀ g, v.ownBlock = some g → R g) (h6 : ∀ x ∈ L, ∀ g, x.2.ownBlock = some g → R g)
    (hb : Below w.heap.size w w3) (hN : IntsV w.heap.size d.2 nv w3) (hbl : base ≤ w.heap.size)
    (h4 : w4.ownsRow base 43 2 v4 (L.length + 1) (L.flatMap gc ++ gc (d, nv))) (hg : (w3.alloc (.cells #[.int .i64 d.1, nv] 43)).grownBy w4 v.ownBlock)
    (hl : v4.ownBlock = v.ownBlock ∨ v4.ownBlock = some (w3.alloc (.cells #[.int .i64 d.1, nv] 43)).heap.size) : GR (fun k => R k ∨ (w.heap.size ≤ k ∧ k < w4.heap.size)) base (L.map Prod.fst ++ [d]) v4 w4 := by
  have bx := Gr.boxed w3 (.cells #[.int .i64 d.1, nv] 43)
  have hsz := hb.size
  have hnew : ∀ g, nv.ownBlock = some g → v.ownBlock ≠ some g := fun g hg e => by
    have h1 := (World.ownsRow.lt hN g hg).1
    have h2 := (hO.lt g e).2
    omega
  have lt3 : ∀ x ∈ L ++ [(d, nv)], ∀ g, x.2.ownBlock = some g → g < w3.heap.size := fun x hx g hgx => by
    rcases List.mem_append.1 hx with h | h
    · exact Nat.lt_of_lt_of_le (World.ownsRow.lt (hT x h) g hgx).2 hb.size
    · rw [List.mem_singleton] at h
      subst h
      exact (World.ownsRow.lt hN g hgx).2
  have ne : ∀ x ∈ L ++ [(d, nv)], ∀ g, x.2.ownBlock = some g → v.ownBlock ≠ some g := fun x hx g hgx => by
    rcases List.mem_append.1 hx with h | h
    · exact hA x h g hgx
    · rw [List.mem_singleton] at h
      subst h
      exact hnew g hgx
  refine ⟨L ++ [(d, nv)], by simp, ?_, fun x hx => ?_, fun x hx g hgx e => ?_, fun g hgv => ?_, fun x hx g hgx => ?_⟩
  · rw [List.length_append, List.flatMap_append]
    simpa using h4
  · rcases List.mem_append.1 hx with h | h
    · exact (hT x h).keep4 (Gr.step hb bx) hg (ne x hx)
    · rw [List.mem_singleton] at h
      subst h
      exact (hN.keep4 bx hg (ne (d, nv) hx)).mono hbl
  · have hlt := lt3 x hx g hgx
    rcases hl with h7 | h7
    · exact ne x hx g hgx (h7.symm.trans e)
    · rw [h7] at e
      injection e with e
      simp at e
      omega
  · rcases hl with h7 | h7
    · exact .inl (h5 g (h7.symm.trans hgv))
    · have hgv0 := hgv
      rw [h7] at hgv
      injection hgv with e
      have hlt := (h4.lt g hgv0).2
      simp at e
      exact .inr (by omega)
  · rcases List.mem_append.1 hx with h | h
    · exact .inl (h6 x h g hgx)
    · rw [List.mem_singleton] at h
      subst h
      have := hg.size
      exact .inr ⟨(World.ownsRow.lt hN g hgx).1, by have h8 := (World.ownsRow.lt hN g hgx).2; simp at this; omega⟩

/-- The grammar as far as it is built. -/
structure BSt (W : World) (N : List ByteArray) (a2 : Option Addr) (c2 : Nat) (R : Nat → Prop) (X : List (Int × List Int)) (a3 : Option Addr) (c3 : Nat) (w : World) : Prop where
  b : Below W.heap.size W w
  t : Bk W.heap.size #[.string ⟨#[65]⟩] 9 w
  g : Bk (W.heap.size + 1) #[.slice (some ⟨W.heap.size, 0, none⟩) 1 1, .slice a2 N.length c2, .slice a3 X.length c3, .int .i64 2] 25 w
  n : Strs (W.heap.size + 1 + 1) N (.slice a2 N.length c2) w
  r : GR R (W.heap.size + 1 + 1) X (.slice a3 X.length c3) w
  ne : ∀ k, (Value.slice a2 N.length c2).ownBlock = some k → ¬ R k
  lo : ∀ k, R k → W.heap.size + 1 < k
  hi : ∀ k, R k → k < w.heap.size
section
variable {W : World} {N : List ByteArray} {a2 : Option Addr} {c2 : Nat} {R : Nat → Prop} {X : List (Int × List Int)} {a3 : Option Addr} {c3 : Nat} {w : World}
theorem BSt.went (k : BSt W N a2 c2 R X a3 c3 w) {w' : World} (hb : Below w.heap.size w w') : BSt W N a2 c2 R X a3 c3 w' :=
  ⟨Gr.step k.b hb, k.t.went hb, k.g.went hb, Sep.ownsRow_at k.n fun g hg => hb.block g (k.n.lt g hg).2, k.r.fr (S := fun _ => False) (Sep.Fr.of_below hb) (fun _ h => h.elim), k.ne, k.lo, fun i hi => Nat.lt_of_lt_of_le (k.hi i hi) hb.size⟩
/-- A name more. -/
theorem BSt.putN (k : BSt W N a2 c2 R X a3 c3 w) {x : ByteArray} {w3 w4 : World} {a4 : Option Addr} {c4 : Nat} (hb : Below w.heap.size w w3)
    (hown : w4.ownsRow (W.heap.size + 1 + 1) 9 1 (.slice a4 (N.length + 1) c4) (N.length + 1) (N.map .string ++ [.string x])) (hg : w3.grownBy w4 (Value.slice a2 N.length c2).ownBlock)
    (hl : (Value.slice a4 (N.length + 1) c4).ownBlock = (Value.slice a2 N.length c2).ownBlock ∨ (Value.slice a4 (N.length + 1) c4).ownBlock = some w3.heap.size) :
    BSt W (N ++ [x]) a4 c4 R X a3 c3 (w4.setCell ⟨W.heap.size + 1, 1, none⟩ (.slice a4 (N.length + 1) c4)) := by
  have k3 := k.went hb
  have lo2 : ∀ i, (Value.slice a2 N.length c2).ownBlock = some i → W.heap.size + 1 + 1 ≤ i := fun i hi => (k.n.lt i hi).1
  have hF : Sep.Fr (fun i => (Value.slice a2 N.length c2).ownBlock = some i) w3 w4 := (Sep.Fr.refl _ _).grown hg fun i hi => .inl hi
  have hF2 : Sep.Fr (fun i => i = W.heap.size + 1) w4 (w4.setCell ⟨W.heap.size + 1, 1, none⟩ (.slice a4 (N.length + 1) c4)) := (Sep.Fr.refl (fun k => k = W.heap.size + 1) w4).setCell ⟨W.heap.size + 1, 1, none⟩ rfl _
  have hlen : (N ++ [x]).length = N.length + 1 := by simp
  have g5 := (k3.g.fr hF fun e => by have := lo2 _ e; omega).set (j := 1) (by simp) (.slice a4 (N.length + 1) c4)
  have b4 : Below W.heap.size W w4 := k3.b.trans (hF.below (fun i hi => by have := lo2 i hi; omega) k3.b.size)
  refine ⟨b4.trans (hF2.below (fun i hi => by omega) b4.size), (k3.t.fr hF fun e => by have := lo2 _ e; omega).fr hF2 (by omega), by rw [hlen]; simpa using g5, ?_, (k3.r.fr hF fun i hi => k.ne i hi).fr hF2 (fun i hi h => by have := k.lo i h; omega), fun i hi hRi => ?_, k.lo, fun i hi => by rw [Rw.set_size]; exact Nat.lt_of_lt_of_le (k3.hi i hi) hF.size⟩
  · have h1 : Strs (W.heap.size + 1 + 1) (N ++ [x]) (.slice a4 (N ++ [x]).length c4) w4 := by
      unfold Strs
      rw [hlen, List.map_append]
      exact hown
    exact Sep.ownsRow_at h1 fun g hg => hF2.block g (h1.lt g hg).2 (by have := (h1.lt g hg).1; omega)
  · rw [hlen] at hi
    rcases hl with h5 | h5
    · exact k.ne i (h5.symm.trans hi) hRi
    · rw [h5] at hi
      injection hi with hi
      have := k.hi i hRi
      have := hb.size
      omega
/-- A rule more, whose right side was made behind w. -/
theorem BSt.putR (k : BSt W N a2 c2 R X a3 c3 w) {L : List ((Int × List Int) × Value)} (h1 : L.map Prod.fst = X) (h2 : w.ownsRow (W.heap.size + 1 + 1) 43 2 (.slice a3 X.length c3) X.length (L.flatMap gc)) (h3 : ∀ x ∈ L, IntsV (W.heap.size + 1 + 1) x.1.2 x.2 w)
    (h4 : ∀ x ∈ L, ∀ g, x.2.ownBlock = some g → (Value.slice a3 X.length c3).ownBlock ≠ some g) (h5 : ∀ g, (Value.slice a3 X.length c3).ownBlock = some g → R g) (h6 : ∀ x ∈ L, ∀ g, x.2.ownBlock = some g → R g)
    {d : Int × List Int} {dn : Nat} (hdn : d.2.length = dn) {ra : Option Addr} {rc : Nat} {w3 w4 : World} {a4 : Option Addr} {c4 : Nat} (hb : Below w.heap.size w w3) (hN : IntsV w.heap.size d.2 (.slice ra dn rc) w3)
    (hown : w4.ownsRow (W.heap.size + 1 + 1) 43 2 (.slice a4 (X.length + 1) c4) (X.length + 1) (L.flatMap gc ++ gc (d, .slice ra dn rc))) (hg : (w3.alloc (.cells #[.int .i64 d.1, .slice ra dn rc] 43)).grownBy w4 (Value.slice a3 X.length c3).ownBlock)
    (hl : (Value.slice a4 (X.length + 1) c4).ownBlock = (Value.slice a3 X.length c3).ownBlock ∨ (Value.slice a4 (X.length + 1) c4).ownBlock = some (w3.alloc (.cells #[.int .i64 d.1, .slice ra dn rc] 43)).heap.size) :
    BSt W N a2 c2 (fun i => R i ∨ (w.heap.size ≤ i ∧ i < w4.heap.size)) (X ++ [d]) a4 c4 (w4.setCell ⟨W.heap.size + 1, 2, none⟩ (.slice a4 (X.length + 1) c4)) := by
  subst hdn
  have hLl : L.length = X.length := by rw [← h1, List.length_map]
  have bx := Gr.boxed w3 (.cells #[.int .i64 d.1, .slice ra d.2.length rc] 43)
  have b3 := Gr.step hb bx
  have k3 := k.went b3
  have hwq : W.heap.size + 1 < w.heap.size := k.g.lt
  have lo3 : ∀ i, (Value.slice a3 X.length c3).ownBlock = some i → W.heap.size + 1 + 1 ≤ i := fun i hi => (h2.lt i hi).1
  have r4 := GR.snoc (d := d) (nv := .slice ra d.2.length rc) (by rw [hLl]; exact h2) h3 h4 h5 h6 hb hN (by omega) (by rw [hLl]; exact hown) hg hl
  rw [h1] at r4
  have hF : Sep.Fr (fun i => (Value.slice a3 X.length c3).ownBlock = some i) (w3.alloc (.cells #[.int .i64 d.1, .slice ra d.2.length rc] 43)) w4 := (Sep.Fr.refl _ _).grown hg fun i hi => .inl hi
  have hF2 : Sep.Fr (fun i => i = W.heap.size + 1) w4 (w4.setCell ⟨W.heap.size + 1, 2, none⟩ (.slice a4 (X.length + 1) c4)) := (Sep.Fr.refl (fun k => k = W.heap.size + 1) w4).setCell ⟨W.heap.size + 1, 2, none⟩ rfl _
  have hlen : (X ++ [d]).length = X.length + 1 := by simp
  have g5 := (k3.g.fr hF fun e => by have := lo3 _ e; omega).set (j := 2) (by simp) (.slice a4 (X.length + 1) c4)
  have b4 : Below W.heap.size W w4 := k3.b.trans (hF.below (fun i hi => by have := lo3 i hi; omega) k3.b.size)
  have n4 : Strs (W.heap.size + 1 + 1) N (.slice a2 N.length c2) w4 := Sep.ownsRow_at k3.n fun g hg => hF.block g (k3.n.lt g hg).2 fun e => k.ne g hg (h5 g e)
  refine ⟨b4.trans (hF2.below (fun i hi => by omega) b4.size), (k3.t.fr hF fun e => by have := lo3 _ e; omega).fr hF2 (by omega), by rw [hlen]; simpa using g5, Sep.ownsRow_at n4 fun g hg => hF2.block g (n4.lt g hg).2 (by have := (n4.lt g hg).1; omega), ?_, fun i hi hRi => ?_, fun i hi => ?_, fun i hi => ?_⟩
  · rw [hlen]
    exact r4.fr hF2 fun i hi h => by
      rcases h with h | h
      · have := k.lo i h; omega
      · omega
  · rcases hRi with h | h
    · exact k.ne i hi h
    · have := (k.n.lt i hi).2
      omega
  · rcases hi with h | h
    · exact k.lo i h
    · omega
  · rw [Rw.set_size]
    rcases hi with h | h
    · exact Nat.lt_of_lt_of_le (k3.hi i h) hF.size
    · exact h.2
end

/-- The grammar, as the call reads it. -/
theorem BSt.gat {W : World} {d m : Nat} {a2 : Option Addr} {c2 : Nat} {R : Nat → Prop} {a3 : Option Addr} {c3 : Nat} {w : World} (k : BSt W (namesTo d) a2 c2 R (chainTo d m d) a3 c3 w) (hd : d ≤ 7) (hm : m ≤ 8) :
    GAt ⟨some ⟨W.heap.size, 0, none⟩, 1, a2, c2, a3, c3⟩ (chainG d m) w := by
  have hlr : ∀ r ∈ chainTo d m d, r.2.length = m ∧ 0 ≤ r.1 ∧ r.1 ≤ 100 ∧ ∀ x ∈ r.2, 0 ≤ x ∧ x ≤ 100 := fun r hr => by
    obtain ⟨i, hi, rfl⟩ := List.mem_map.1 hr
    have hi := List.mem_range.1 hi
    refine ⟨by simp [chainR], by simp [chainR]; omega, by simp [chainR]; omega, fun x hx => ?_⟩
    have := List.eq_of_mem_replicate (show x ∈ List.replicate m (if i + 1 = d then 1 else ((3 + i : Nat) : Int)) from hx)
    subst this
    split <;> omega
  have hnl : (chainG d m).nons.length = d := namesTo_len d
  have hrl : (chainG d m).rules.length = d := chainTo_len d m d
  obtain ⟨_, _, _, hcap⟩ := GRules.len k.r.rules
  refine ⟨fun i hi => ?_, ?_, (GRules.at k.r.rules fun r hr => by rw [(hlr r hr).1]; omega), by simp [chainG], by simp [chainG], by rw [hnl]; omega, ?_, by rw [hrl]; omega, ⟨?_, ?_, ⟨by show (-9223372036854775808 : Int) ≤ 2; omega, by show (2 : Int) ≤ 9223372036854775807; omega⟩, fun r hr => ?_, fun r hr x hx => ?_⟩⟩
  · have h2 : i < 1 := hi
    obtain rfl : i = 0 := by omega
    exact ⟨W.heap.size, 0, rfl, k.t.cell rfl⟩
  · exact Sep.Reads.of_row k.n
  · rcases k.r with ⟨L, h1, h2, _⟩
    rcases h2.2 with ⟨e, h0⟩ | ⟨g, cap, cur, e, _, _, h5, _⟩
    · simp only [Value.slice.injEq] at e
      rw [hrl]
      have := chainTo_len d m d
      omega
    · simp only [Value.slice.injEq] at e
      have h3 : L.length = d := by rw [← chainTo_len d m d, ← h1, List.length_map]
      show (chainG d m).rules.length ≤ c3
      rw [hrl]
      omega
  · intro s hs
    have : s = ⟨#[65]⟩ := by simpa [chainG] using hs
    subst this
    simp [ByteArray.size]
  · intro s hs
    obtain ⟨i, hi, rfl⟩ := List.mem_map.1 (show s ∈ (List.range d).map nmI from hs)
    simp [nmI, ByteArray.size]
  · have := hlr r hr
    exact ⟨by omega, by omega⟩
  · have := (hlr r hr).2.2.2 x hx
    exact ⟨by omega, by omega⟩

/-- A rule as it is built: its box, its right side. -/
structure SSt (W : World) (qr : Nat) (left x : Int) (j : Nat) (ra : Option Addr) (rc : Nat) (w : World) : Prop where
  b : Below W.heap.size W w
  q : Bk qr #[.int .i64 left, .slice ra j rc] 43 w
  r : w.ownsRow (qr + 1) 3 1 (.slice ra j rc) j (ivs (List.replicate j x))
  lo : W.heap.size ≤ qr
theorem ivs_rep (j : Nat) (x : Int) : ivs (List.replicate (j + 1) x) = ivs (List.replicate j x) ++ [.int .i64 x] := by
  rw [List.replicate_succ', ivs_snoc]
  rfl
theorem SSt.put {W : World} {qr : Nat} {left x : Int} {j : Nat} {ra : Option Addr} {rc : Nat} {w w4 : World} (k : SSt W qr left x j ra rc w) {a4 : Option Addr} {c4 : Nat}
    (hown : w4.ownsRow (qr + 1) 3 1 (.slice a4 (j + 1) c4) (j + 1) (ivs (List.replicate j x) ++ [.int .i64 x])) (hg : (w.alloc (.cells #[.int .i64 x] 3)).grownBy w4 (Value.slice ra j rc).ownBlock) :
    SSt W qr left x (j + 1) a4 c4 (w4.setCell ⟨qr, 1, none⟩ (.slice a4 (j + 1) c4)) := by
  have bx := boxed w (.cells #[.int .i64 x] 3)
  have lo2 : ∀ g, (Value.slice ra j rc).ownBlock = some g → qr + 1 ≤ g := fun g hg => (k.r.lt g hg).1
  have hlo := k.lo
  have b3 := Gr.step k.b bx
  have b4 : Below W.heap.size W w4 := b3.grown hg b3.size fun g h => by have := lo2 g h; omega
  have hF : Sep.Fr (fun i => i = qr) w4 (w4.setCell ⟨qr, 1, none⟩ (.slice a4 (j + 1) c4)) := (Sep.Fr.refl (fun k => k = qr) w4).setCell ⟨qr, 1, none⟩ rfl _
  refine ⟨b4.trans (hF.below (fun i hi => by omega) b4.size), by simpa using ((k.q.went bx).grown hg fun g h => by have := lo2 g h; omega).set (j := 1) (by simp) (.slice a4 (j + 1) c4), ?_, hlo⟩
  rw [ivs_rep]
  exact Sep.ownsRow_at hown fun g hg => hF.block g (hown.lt g hg).2 (by have := (hown.lt g hg).1; omega)

end Go.Proofs.Ytpfokebbpbigdaa.Le
